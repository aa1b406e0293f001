import Derived.Test.YtbamhbfncddieaaOrd5x8
import Derived.Test.YtbamhbfncddieaaUcd14x17
import Derived.Deep.AppendLies
import Derived.Deep.RegionLawGrows
namespace Go.Proofs.Ytbamhbfncddieaa
namespace Od
open Go.RowKit

/-- A slice that holds these numbers. -/
structure SlP (k : IntKind) (w : World) (ao : Option Addr) (cap : Nat) (zs : List Int) : Prop where
  fits : zs.length ≤ cap
  none_ : ao = none → zs.length = 0 ∧ cap = 0
  at_ : ∀ j (h : j < zs.length), ∃ b off, ao = some ⟨b, off, none⟩ ∧ b < w.heap.size ∧ w.cell? ⟨b, off + j, none⟩ = some (.int k zs[j])
def Sl (k : IntKind) (w : World) (v : Value) (zs : List Int) : Prop := ∃ ao cap, v = .slice ao zs.length cap ∧ SlP k w ao cap zs
theorem SlP.step {k : IntKind} {w w' : World} {ao : Option Addr} {cap : Nat} {zs : List Int} (h : SlP k w ao cap zs) (hb : Below w.heap.size w w') : SlP k w' ao cap zs :=
  ⟨h.fits, h.none_, fun j hj => by
    obtain ⟨b, off, e, hlt, hc⟩ := h.at_ j hj
    exact ⟨b, off, e, Nat.lt_of_lt_of_le hlt hb.size, (hb.cell (p := ⟨b, off + j, none⟩) hlt).trans hc⟩⟩
theorem Sl.step {k : IntKind} {w w' : World} {v : Value} {zs : List Int} (h : Sl k w v zs) (hb : Below w.heap.size w w') : Sl k w' v zs := by
  obtain ⟨ao, cap, e, h⟩ := h
  exact ⟨ao, cap, e, h.step hb⟩
/-- The like of a slice that isn't nil. -/
def Sn (k : IntKind) (w : World) (v : Value) (zs : List Int) : Prop := ∃ ad cap, v = .slice (some ad) zs.length cap ∧ SlP k w (some ad) cap zs
theorem Sn.sl {k : IntKind} {w : World} {v : Value} {zs : List Int} (h : Sn k w v zs) : Sl k w v zs := by
  obtain ⟨ad, cap, e, h⟩ := h
  exact ⟨_, cap, e, h⟩
theorem Sn.step {k : IntKind} {w w' : World} {v : Value} {zs : List Int} (h : Sn k w v zs) (hb : Below w.heap.size w w') : Sn k w' v zs := by
  obtain ⟨ad, cap, e, h⟩ := h
  exact ⟨ad, cap, e, h.step hb⟩
def isSome : Value → Prop
  | .slice (some _) _ _ => True
  | _ => False
theorem Sl.sn {k : IntKind} {w : World} {v : Value} {zs : List Int} (h : Sl k w v zs) (hs : isSome v) : Sn k w v zs := by
  obtain ⟨ao, cap, rfl, h⟩ := h
  cases ao with
  | none => exact hs.elim
  | some ad => exact ⟨ad, cap, rfl, h⟩
theorem own_some {w : World} {B n size : Nat} {e : TypeId} {v : Value} {xs : List Value} (h : w.ownsRow B e size v n xs) (hn : 0 < n) : isSome v := by
  rcases h.2 with ⟨_, h2⟩ | ⟨g, cap, cur, rfl, _⟩
  · omega
  · trivial
def ivs (k : IntKind) (l : List Int) : List Value := l.map (.int k ·)
theorem ivs_len (k : IntKind) (l : List Int) : (ivs k l).length = l.length := by simp [ivs]
theorem ivs_snoc (k : IntKind) (l : List Int) (x : Int) : ivs k (l ++ [x]) = ivs k l ++ [.int k x] := by simp [ivs]
theorem own_sl {k : IntKind} {w : World} {B : Nat} {e : TypeId} {v : Value} {l : List Int} (h : w.ownsRow B e 1 v l.length (ivs k l)) : Sl k w v l := by
  have h0 := h
  rcases h.2 with ⟨h1, h2⟩ | ⟨g, cap, cur, rfl, h2, h3, h4, h5, h6, h7⟩
  · exact ⟨none, 0, by rw [h1, h2], by omega, fun _ => ⟨by omega, rfl⟩, fun j hj => by omega⟩
  · refine ⟨_, cap, rfl, h4, fun e => (by cases e), fun j hj => ⟨g, 0, rfl, (Array.getElem?_eq_some_iff.1 h3).1, ?_⟩⟩
    rw [Nat.zero_add, h0.cellAt j (by omega)]
    simp [ivs, hj]
theorem own_slice {w : World} {B n size : Nat} {e : TypeId} {v : Value} {xs : List Value} (h : w.ownsRow B e size v n xs) : ∃ ao cap, v = .slice ao n cap := by
  rcases h.2 with ⟨h1, h2⟩ | ⟨g, cap, cur, h1, _⟩
  · exact ⟨none, 0, by rw [h1, h2]⟩
  · exact ⟨_, cap, h1⟩
theorem own_base {w : World} {B B' n size : Nat} {e : TypeId} {v : Value} {xs : List Value} (h : w.ownsRow B e size v n xs) (hB : B' ≤ B) : w.ownsRow B' e size v n xs :=
  ⟨h.1, h.2.imp id fun ⟨g, cap, cur, h1, h2, h3⟩ => ⟨g, cap, cur, h1, Nat.le_trans hB h2, h3⟩⟩
theorem heap_new (w : World) (o : Obj) : (w.alloc o).heap[w.heap.size]? = some o := heap_alloc_new w o
theorem below_of_grown {w w' : World} {row : Option Nat} (hg : w.grownBy w' row) (B : Nat) (hB : B ≤ w.heap.size) (hr : ∀ k, row = some k → B ≤ k) : Below B w w' := (Below.refl B w).grown hg hB hr

theorem Try.info_i32 : (Try.prog.info? 21).map (fun i => (i.zero, i.size, i.bytes)) = some (some (.int .i32 0), 1, 4) := by kernel_rfl
theorem Try.info_i64 : (Try.prog.info? 3).map (fun i => (i.zero, i.size, i.bytes)) = some (some (.int .i64 0), 1, 8) := by kernel_rfl
theorem info_parts {i : Option TypeInfo} {z : Option Value} {s b : Nat} (h : i.map (fun i => (i.zero, i.size, i.bytes)) = some (z, s, b)) : ∃ j, i = some j ∧ j.zero = z ∧ j.size = s ∧ j.bytes = b := by
  cases i with
  | none => simp at h
  | some j => simp at h; exact ⟨j, rfl, h.1, h.2.1, h.2.2⟩

/-- append(s, x) of one int, s of the call's own. -/
theorem app_i64 {ops : Array Oper} {rest : List Oper} {o : Oper} {a : Act} {Q : Exit → Act → World → Prop} (hgd : o.guard = none) (s x : Operand)
    (ho : o.op = .call { callee := .builtin .append, args := #[s, x], argTypes := #[37, 37] }) (W : World) (B n : Nat) (v : Value) (xs : List Value) (r : Int) (hs : a.eval s = v) (N : Nat) (hN : W.heap.size = N) (hx : a.eval x = .slice (some ⟨N, 0, none⟩) 1 1)
    (hown : W.ownsRow B 3 1 v n xs) (hn : n ≤ 1000000000) (hB : B ≤ W.heap.size)
    (h : ∀ v' w', w'.ownsRow B 3 1 v' (n + 1) (xs ++ [.int .i64 r]) → Below B W w' → wpList Try.prog ops Q rest (a.put o.dst v') w') :
    wpList Try.prog ops Q (o :: rest) a (W.alloc (.cells #[.int .i64 r] 3)) := by
  subst hN
  obtain ⟨i0, hi, hz0, hz1, hz2⟩ := info_parts Try.info_i64
  refine wpList_append_own_at _ hgd s x 37 ho B 3 i0 (.int .i64 0) 1 8 Try.underlying37 hi hz0 hz1 hz2 rfl (by decide) v n xs hs (hown.alloc _) ⟨W.heap.size, 0, none⟩ 1 1 [.int .i64 r] hx rfl
    (World.news_of_block (heap_new W _)) (fun u hu => by simp at hu; subst hu; rfl) (by unfold maxLen; omega) (by omega) (by simp; omega) (fun v' w' h1 h2 _ _ => h v' w' h1 ?_)
  exact ((Below.refl _ _).alloc hB _).trans (below_of_grown h2 B (by simp; omega) (fun k e => (hown.lt k e).1))
/-- append(s, x) of one rune, s of the call's own. -/
theorem app_i32 {ops : Array Oper} {rest : List Oper} {o : Oper} {a : Act} {Q : Exit → Act → World → Prop} (hgd : o.guard = none) (s x : Operand)
    (ho : o.op = .call { callee := .builtin .append, args := #[s, x], argTypes := #[22, 22] }) (W : World) (B n : Nat) (v : Value) (xs : List Value) (r : Int) (hs : a.eval s = v) (N : Nat) (hN : W.heap.size = N) (hx : a.eval x = .slice (some ⟨N, 0, none⟩) 1 1)
    (hown : W.ownsRow B 21 1 v n xs) (hn : n ≤ 1000000000) (hB : B ≤ W.heap.size)
    (h : ∀ v' w', w'.ownsRow B 21 1 v' (n + 1) (xs ++ [.int .i32 r]) → Below B W w' → wpList Try.prog ops Q rest (a.put o.dst v') w') :
    wpList Try.prog ops Q (o :: rest) a (W.alloc (.cells #[.int .i32 r] 21)) := by
  subst hN
  obtain ⟨i0, hi, hz0, hz1, hz2⟩ := info_parts Try.info_i32
  refine wpList_append_own_at _ hgd s x 22 ho B 21 i0 (.int .i32 0) 1 4 Try.underlying22 hi hz0 hz1 hz2 rfl (by decide) v n xs hs (hown.alloc _) ⟨W.heap.size, 0, none⟩ 1 1 [.int .i32 r] hx rfl
    (World.news_of_block (heap_new W _)) (fun u hu => by simp at hu; subst hu; rfl) (by unfold maxLen; omega) (by omega) (by simp; omega) (fun v' w' h1 h2 _ _ => h v' w' h1 ?_)
  exact ((Below.refl _ _).alloc hB _).trans (below_of_grown h2 B (by simp; omega) (fun k e => (hown.lt k e).1))

theorem ok_below {B : Nat} {w a b : World} (h : Below B a b) (k : Ok B w a) : Ok B w b := ⟨k.1.trans h, Nat.le_trans k.2 h.size⟩



set_option maxRecDepth 100000 in
set_option maxHeartbeats 2000000 in
theorem clone_any (v : Value) (zs : List Int) (w : World) (h : Sl .i32 w v zs) (hn : zs.length ≤ 1000000) :
    Calls Try.prog 98 #[v] w fun e w' => ∃ v', e = .returned v' ∧ Below w.heap.size w w' ∧ ((zs = [] ∧ Sl .i32 w' v' []) ∨ ∃ g cap T, v' = .slice (some ⟨g, 0, none⟩) zs.length cap ∧ zs.length ≤ cap ∧ w.heap.size ≤ g ∧ Blk w' g zs T) := by
  have hEq : ∀ (a : Option Addr) (l c : Nat) (w : World), (binOp .eql 22 (.slice a l c) (.slice none 0 0)).run Try.prog w = .ok (.bool a.isNone) w := fun a l c w => Go.Lib.run_eql_slice_nil w 22 21 a l c 0 0 Try.underlying22
  obtain ⟨ao, cap, rfl, h⟩ := h
  have HS := hid h
  clear h
  cases ao with
  | none =>
    obtain ⟨e1, e2⟩ := HS.out.none_ rfl
    have : zs = [] := List.eq_nil_of_length_eq_zero e1
    subst this e2
    go_enter Try.func98, Try.ntmps98
    go_wp2_with fail
    go_ret
    exact ⟨_, rfl, Below.refl _ _, .inl ⟨(by first | rfl | trivial), none, 0, rfl, Nat.le_refl _, fun _ => ⟨rfl, rfl⟩, fun j hj => by simp at hj⟩⟩
  | some ad =>
    have HO : Hid ((w.alloc (.cells #[] 21)).ownsRow w.heap.size 21 1 (.slice (some ⟨w.heap.size, 0, none⟩) 0 0) 0 []) := World.ownsRow_made w #[] 0 (Nat.le_refl _) (by unfold maxLen; omega) rfl
    obtain ⟨i0, hi, hz0, hz1, hz2⟩ := info_parts Try.info_i32
    have HI := hid (And.intro hi (And.intro hz0 (And.intro hz1 hz2)))
    clear hi hz0 hz1 hz2
    go_enter Try.func98, Try.ntmps98
    go_wp2_with (at_builtin; refine wpList_append_own_at _ rfl (.tmp 5) (.tmp 6) 22 rfl w.heap.size 21 i0 (.int .i32 0) 1 4 Try.underlying22 HI.out.1 HI.out.2.1 HI.out.2.2.1 HI.out.2.2.2 rfl (by decide) _ 0 [] rfl HO.out ad zs.length cap (ivs .i32 zs) rfl (by rw [ivs_len]; omega) ?_ (fun u hu => by simp [ivs] at hu; obtain ⟨z, _, rfl⟩ := hu; rfl) (by unfold maxLen; omega) (by omega) (by simp) (fun v' w' h1 h2 _ _ => ?_))
    · intro j u hj
      have hlt : j < zs.length := by
        have := (List.getElem?_eq_some_iff.1 hj).1
        rwa [ivs_len] at this
      obtain ⟨b, off, e, hb, hc⟩ := HS.out.at_ j hlt
      simp at e
      subst e
      have e2 : (⟨b, off, none⟩ : Addr).add j = ⟨b, off + j, none⟩ := by unfold Addr.add; split <;> simp_all
      rw [e2, World.cell?_alloc_lt _ _ _ hb, hc]
      simp [ivs, hlt] at hj
      rw [hj]
    · rw [Nat.zero_add, List.nil_append] at h1
      have hb : Below w.heap.size w w' := ((Below.refl _ _).alloc (Nat.le_refl _) _).trans (below_of_grown h2 w.heap.size (by simp) (fun k e => by simp [Act.eval, Value.ownBlock] at e; omega))
      have H1 := hid h1
      have HB := hid hb
      clear h1 h2 hb
      go_ret
      refine ⟨_, rfl, HB.out, ?_⟩
      have h1 := H1.out
      by_cases hz : zs = []
      · subst hz
        exact .inl ⟨(by first | rfl | trivial), own_sl (B := w.heap.size) (e := 21) h1⟩
      · rcases h1.2 with ⟨_, h2⟩ | ⟨g, cap', cur, h3, h4, h5, h6, h7, h8, h9⟩
        · exact absurd (List.eq_nil_of_length_eq_zero h2) hz
        · refine .inr ⟨g, cap', cur.toList.drop zs.length, h3, h6, h4, ?_⟩
          show w'.heap[g]? = _
          rw [h5]
          have e3 : (i32s zs ++ cur.toList.drop zs.length).toArray = cur := by
            have h10 : cur.toList.take zs.length = i32s zs := by simpa [i32s, ivs] using h9
            rw [← h10, List.take_append_drop]
          rw [e3]
end Od
end Go.Proofs.Ytbamhbfncddieaa
