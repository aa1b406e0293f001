import Derived.Test.YtoknfhjclpdihaaOrd8
import Derived.Deep.AppendLies
import Derived.Deep.RegionLawGrows
namespace Go.Proofs.Ytoknfhjclpdihaa
namespace Od
open Go.RowKit

/-- A slice that holds these numbers. -/
structure SlP (k : IntKind) (w : World) (ao : Option Addr) (cap : Nat) (zs : List Int) : Prop where
  fits : zs.length ≤ cap
  none_ : ao = none → zs.length = 0 ∧ cap = 0
  at_ : ∀ j (h : j < zs.length), ∃ b off, ao = some ⟨b, off, none⟩ ∧ b < w.heap.size ∧ w.cell? ⟨b, off + j, none⟩ = some (.int k zs[j])
def Sl (k : IntKind) (w : World) (v : Value) (zs : List Int) : Prop := ∃ ao cap, v = .slice ao zs.length cap ∧ SlP k w ao cap zs
theorem SlP.step {k : IntKind} {w w' : World} {ao : Option Addr} {cap : Nat} {zs : List Int} (h : SlP k w ao cap zs) (hb : Below w.heap.size w w') : SlP k w' ao cap zs :=
  ⟨h.fits, h.none_, fun j hj => by
    obtain ⟨b, off, e, hlt, hc⟩ := h.at_ j hj
    exact ⟨b, off, e, Nat.lt_of_lt_of_le hlt hb.size, (hb.cell (p := ⟨b, off + j, none⟩) hlt).trans hc⟩⟩
theorem Sl.step {k : IntKind} {w w' : World} {v : Value} {zs : List Int} (h : Sl k w v zs) (hb : Below w.heap.size w w') : Sl k w' v zs := by
  obtain ⟨ao, cap, e, h⟩ := h
  exact ⟨ao, cap, e, h.step hb⟩
/-- The like of a slice that isn't nil. -/
def Sn (k : IntKind) (w : World) (v : Value) (zs : List Int) : Prop := ∃ ad cap, v = .slice (some ad) zs.length cap ∧ SlP k w (some ad) cap zs
theorem Sn.sl {k : IntKind} {w : World} {v : Value} {zs : List Int} (h : Sn k w v zs) : Sl k w v zs := by
  obtain ⟨ad, cap, e, h⟩ := h
  exact ⟨_, cap, e, h⟩
theorem Sn.step {k : IntKind} {w w' : World} {v : Value} {zs : List Int} (h : Sn k w v zs) (hb : Below w.heap.size w w') : Sn k w' v zs := by
  obtain ⟨ad, cap, e, h⟩ := h
  exact ⟨ad, cap, e, h.step hb⟩
def isSome : Value → Prop
  | .slice (some _) _ _ => True
  | _ => False
theorem Sl.sn {k : IntKind} {w : World} {v : Value} {zs : List Int} (h : Sl k w v zs) (hs : isSome v) : Sn k w v zs := by
  obtain ⟨ao, cap, rfl, h⟩ := h
  cases ao with
  | none => exact hs.elim
  | some ad => exact ⟨ad, cap, rfl, h⟩
theorem own_some {w : World} {B n size : Nat} {e : TypeId} {v : Value} {xs : List Value} (h : w.ownsRow B e size v n xs) (hn : 0 < n) : isSome v := by
  rcases h.2 with ⟨_, h2⟩ | ⟨g, cap, cur, rfl, _⟩
  · omega
  · trivial
def ivs (k : IntKind) (l : List Int) : List Value := l.map (.int k ·)
theorem ivs_len (k : IntKind) (l : List Int) : (ivs k l).length = l.length := by simp [ivs]
theorem ivs_snoc (k : IntKind) (l : List Int) (x : Int) : ivs k (l ++ [x]) = ivs k l ++ [.int k x] := by simp [ivs]
theorem own_sl {k : IntKind} {w : World} {B : Nat} {e : TypeId} {v : Value} {l : List Int} (h : w.ownsRow B e 1 v l.length (ivs k l)) : Sl k w v l := by
  have h0 := h
  rcases h.2 with ⟨h1, h2⟩ | ⟨g, cap, cur, rfl, h2, h3, h4, h5, h6, h7⟩
  · exact ⟨none, 0, by rw [h1, h2], by omega, fun _ => ⟨by omega, rfl⟩, fun j hj => by omega⟩
  · refine ⟨_, cap, rfl, h4, fun e => (by cases e), fun j hj => ⟨g, 0, rfl, (Array.getElem?_eq_some_iff.1 h3).1, ?_⟩⟩
    rw [Nat.zero_add, h0.cellAt j (by omega)]
    simp [ivs, hj]
theorem own_slice {w : World} {B n size : Nat} {e : TypeId} {v : Value} {xs : List Value} (h : w.ownsRow B e size v n xs) : ∃ ao cap, v = .slice ao n cap := by
  rcases h.2 with ⟨h1, h2⟩ | ⟨g, cap, cur, h1, _⟩
  · exact ⟨none, 0, by rw [h1, h2]⟩
  · exact ⟨_, cap, h1⟩
theorem own_base {w : World} {B B' n size : Nat} {e : TypeId} {v : Value} {xs : List Value} (h : w.ownsRow B e size v n xs) (hB : B' ≤ B) : w.ownsRow B' e size v n xs :=
  ⟨h.1, h.2.imp id fun ⟨g, cap, cur, h1, h2, h3⟩ => ⟨g, cap, cur, h1, Nat.le_trans hB h2, h3⟩⟩
theorem heap_new (w : World) (o : Obj) : (w.alloc o).heap[w.heap.size]? = some o := heap_alloc_new w o
theorem below_of_grown {w w' : World} {row : Option Nat} (hg : w.grownBy w' row) (B : Nat) (hB : B ≤ w.heap.size) (hr : ∀ k, row = some k → B ≤ k) : Below B w w' := (Below.refl B w).grown hg hB hr

theorem Try.info_i32 : (Try.prog.info? 21).map (fun i => (i.zero, i.size, i.bytes)) = some (some (.int .i32 0), 1, 4) := by kernel_rfl
theorem Try.info_i64 : (Try.prog.info? 3).map (fun i => (i.zero, i.size, i.bytes)) = some (some (.int .i64 0), 1, 8) := by kernel_rfl
theorem info_parts {i : Option TypeInfo} {z : Option Value} {s b : Nat} (h : i.map (fun i => (i.zero, i.size, i.bytes)) = some (z, s, b)) : ∃ j, i = some j ∧ j.zero = z ∧ j.size = s ∧ j.bytes = b := by
  cases i with
  | none => simp at h
  | some j => simp at h; exact ⟨j, rfl, h.1, h.2.1, h.2.2⟩

/-- append(s, x) of one int, s of the call's own. -/
theorem app_i64 {ops : Array Oper} {rest : List Oper} {o : Oper} {a : Act} {Q : Exit → Act → World → Prop} (hgd : o.guard = none) (s x : Operand)
    (ho : o.op = .call { callee := .builtin .append, args := #[s, x], argTypes := #[29, 29] }) (W : World) (B n : Nat) (v : Value) (xs : List Value) (r : Int) (hs : a.eval s = v) (N : Nat) (hN : W.heap.size = N) (hx : a.eval x = .slice (some ⟨N, 0, none⟩) 1 1)
    (hown : W.ownsRow B 3 1 v n xs) (hn : n ≤ 1000000000) (hB : B ≤ W.heap.size)
    (h : ∀ v' w', w'.ownsRow B 3 1 v' (n + 1) (xs ++ [.int .i64 r]) → Below B W w' → wpList Try.prog ops Q rest (a.put o.dst v') w') :
    wpList Try.prog ops Q (o :: rest) a (W.alloc (.cells #[.int .i64 r] 3)) := by
  subst hN
  obtain ⟨i0, hi, hz0, hz1, hz2⟩ := info_parts Try.info_i64
  refine wpList_append_own_at _ hgd s x 29 ho B 3 i0 (.int .i64 0) 1 8 Try.underlying29 hi hz0 hz1 hz2 rfl (by decide) v n xs hs (hown.alloc _) ⟨W.heap.size, 0, none⟩ 1 1 [.int .i64 r] hx rfl
    (World.news_of_block (heap_new W _)) (fun u hu => by simp at hu; subst hu; rfl) (by unfold maxLen; omega) (by omega) (by simp; omega) (fun v' w' h1 h2 _ _ => h v' w' h1 ?_)
  exact ((Below.refl _ _).alloc hB _).trans (below_of_grown h2 B (by simp; omega) (fun k e => (hown.lt k e).1))
/-- append(s, x) of one rune, s of the call's own. -/
theorem app_i32 {ops : Array Oper} {rest : List Oper} {o : Oper} {a : Act} {Q : Exit → Act → World → Prop} (hgd : o.guard = none) (s x : Operand)
    (ho : o.op = .call { callee := .builtin .append, args := #[s, x], argTypes := #[22, 22] }) (W : World) (B n : Nat) (v : Value) (xs : List Value) (r : Int) (hs : a.eval s = v) (N : Nat) (hN : W.heap.size = N) (hx : a.eval x = .slice (some ⟨N, 0, none⟩) 1 1)
    (hown : W.ownsRow B 21 1 v n xs) (hn : n ≤ 1000000000) (hB : B ≤ W.heap.size)
    (h : ∀ v' w', w'.ownsRow B 21 1 v' (n + 1) (xs ++ [.int .i32 r]) → Below B W w' → wpList Try.prog ops Q rest (a.put o.dst v') w') :
    wpList Try.prog ops Q (o :: rest) a (W.alloc (.cells #[.int .i32 r] 21)) := by
  subst hN
  obtain ⟨i0, hi, hz0, hz1, hz2⟩ := info_parts Try.info_i32
  refine wpList_append_own_at _ hgd s x 22 ho B 21 i0 (.int .i32 0) 1 4 Try.underlying22 hi hz0 hz1 hz2 rfl (by decide) v n xs hs (hown.alloc _) ⟨W.heap.size, 0, none⟩ 1 1 [.int .i32 r] hx rfl
    (World.news_of_block (heap_new W _)) (fun u hu => by simp at hu; subst hu; rfl) (by unfold maxLen; omega) (by omega) (by simp; omega) (fun v' w' h1 h2 _ _ => h v' w' h1 ?_)
  exact ((Below.refl _ _).alloc hB _).trans (below_of_grown h2 B (by simp; omega) (fun k e => (hown.lt k e).1))

theorem ok_below {B : Nat} {w a b : World} (h : Below B a b) (k : Ok B w a) : Ok B w b := ⟨k.1.trans h, Nat.le_trans k.2 h.size⟩


set_option maxHeartbeats 2000000 in
theorem ints11_any (v : Value) (zs : List Int) (w : World) (h : Sl .i32 w v zs) (hn : zs.length ≤ 1000000) (hz : ∀ z ∈ zs, -2147483648 ≤ z ∧ z ≤ 2147483647) :
    Calls Try.prog 10 #[v] w fun e w' => ∃ v', e = .returned v' ∧ Sn .i64 w' v' zs ∧ Below w.heap.size w w' := by
  obtain ⟨ao, cap, rfl, h⟩ := h
  have HS := hid h
  have HZ := hid hz
  clear h hz
  have HO : Hid ((w.alloc (.cells #[] 3)).ownsRow w.heap.size 3 1 (.slice (some ⟨w.heap.size, 0, none⟩) 0 0) 0 []) := World.ownsRow_made w #[] 0 (Nat.le_refl _) (by unfold maxLen; omega) rfl
  have hok := hid ((Ok.start w).alloc (o := .cells #[] 3))
  go_enter Try.func10, Try.ntmps10
  go_wp2_with fail
  go_loopg [3, 5, 9] zs.length (fun g vo _ vi wr => ∃ k : Nat, vi = .int .i64 k ∧ k ≤ zs.length ∧ g = zs.length - k ∧ Hid (wr.ownsRow w.heap.size 3 1 vo k (ivs .i64 (zs.take k)) ∧ Ok w.heap.size w wr ∧ isSome vo))
  case atStart => exact ⟨0, rfl, Nat.zero_le _, rfl, HO.out, hok.out, trivial⟩
  case round =>
    obtain ⟨k, rfl, hk, hg, H⟩ := hrel
    have HG := hid hg
    clear hg HO hok
    by_cases hlt : k < zs.length
    · obtain ⟨b, off, rfl, hb, hc⟩ := HS.out.at_ k hlt
      have hc' := (H.out.2.1.1.cell (p := ⟨b, off + k, none⟩) hb).trans hc
      have hzk := HZ.out zs[k] (List.getElem_mem hlt)
      have HT : Hid (ivs .i64 (zs.take (k + 1)) = ivs .i64 (zs.take k) ++ [.int .i64 zs[k]]) := by show _ = _; rw [List.take_succ_eq_append_getElem hlt, ivs_snoc]
      clear hc
      generalize zs[k] = z at *
      have hwz : IntKind.i64.wrap z = z := by rw [IntKind.wrap_i64]; omega
      go_wp2_with (at_builtin; refine app_i64 rfl (.tmp 13) (.tmp 16) rfl wr w.heap.size k _ _ z rfl wr.heap.size rfl rfl H.out.1 (by omega) H.out.2.1.2 (fun v' w' h1 h2 => ?_))
      have H2 : Hid (w'.ownsRow w.heap.size 3 1 v' (k + 1) (ivs .i64 (zs.take (k + 1))) ∧ Ok w.heap.size w w' ∧ isSome v') := by
        refine ⟨by rw [HT.out]; exact h1, ok_below h2 H.out.2.1, own_some h1 (Nat.succ_pos k)⟩
      clear h1 h2
      go_roundg (zs.length - (k + 1))
      case measure => rw [HG.out]; omega
      case rel => exact ⟨k + 1, by go_num, by omega, rfl, H2.out⟩
    · have e : k = zs.length := by omega
      subst e
      go_wp2_with fail
      go_ret
      refine ⟨_, rfl, (own_sl (B := w.heap.size) (e := 3) ?_).sn H.out.2.2, H.out.2.1.1⟩
      have := H.out.1
      rwa [List.take_length] at this

set_option maxRecDepth 100000 in
set_option maxHeartbeats 2000000 in
theorem same_any (v v' : Value) (zs ys : List Int) (w : World) (h : Sl .i64 w v zs) (h' : Sl .i64 w v' ys) (hn : zs.length ≤ 1000000000) :
    Calls Try.prog 12 #[v, v'] w fun e w' => e = .returned (.bool (decide (zs = ys))) ∧ Below w.heap.size w w' := by
  obtain ⟨ao, cap, rfl, h⟩ := h
  obtain ⟨ao', cap', rfl, h'⟩ := h'
  have HS := hid h
  have HS' := hid h'
  clear h h'
  by_cases hl : zs.length = ys.length
  · have HL := hid hl
    have hl1 : zs.length ≤ ys.length := by omega
    have hl2 : ys.length ≤ zs.length := by omega
    rw [← hl]
    clear hl
    have hok := hid (Ok.start w)
    go_enter Try.func12, Try.ntmps12
    go_wp2_with fail
    go_loopg [5] zs.length (fun g vi wr => ∃ k : Nat, vi = .int .i64 k ∧ k ≤ zs.length ∧ g = zs.length - k ∧ Hid (zs.take k = ys.take k ∧ Ok w.heap.size w wr))
    case atStart => exact ⟨0, rfl, Nat.zero_le _, rfl, rfl, hok.out⟩
    case round =>
      obtain ⟨k, rfl, hk, hg, H⟩ := hrel
      have HG := hid hg
      clear hg hok
      by_cases hlt : k < zs.length
      · obtain ⟨b, off, rfl, hb, hc⟩ := HS.out.at_ k hlt
        obtain ⟨b', off', rfl, hb', hc'⟩ := HS'.out.at_ k (by omega)
        have c1 := ((H.out.2.1.cell (p := ⟨b, off + k, none⟩) hb).trans hc)
        have c2 := ((H.out.2.1.cell (p := ⟨b', off' + k, none⟩) hb').trans hc')
        have c1d : wr.drew.cell? ⟨b, off + k, none⟩ = some (.int .i64 zs[k]) := c1
        have c2d : wr.drew.cell? ⟨b', off' + k, none⟩ = some (.int .i64 (ys[k]'(by omega))) := c2
        clear hc hc'
        have hlt' : (k : Int) < (zs.length : Int) := by omega
        have HOD : Hid (Ok w.heap.size w wr.drew) := H.out.2.step ((Below.refl _ _).drew)
        by_cases he : zs[k] = ys[k]'(by omega)
        · have HT : Hid (zs.take (k + 1) = ys.take (k + 1)) := by
            show _ = _
            rw [List.take_succ_eq_append_getElem hlt, List.take_succ_eq_append_getElem (show k < ys.length by omega), H.out.1, he]
          rw [← he] at c2 c2d
          clear he
          generalize zs[k] = z at *
          go_wp2_with fail
          go_region
          go_wp2_with fail
          go_roundg (zs.length - (k + 1))
          case measure => rw [HG.out]; omega
          case rel => exact ⟨k + 1, by go_num, by omega, rfl, HT.out, HOD.out⟩
        · have HT : Hid (¬ zs = ys) := fun e => he (by simp only [e])
          generalize zs[k] = z at *
          generalize ys[k]'(by omega) = y at *
          have hne : (z != y) = true := by simpa using he
          go_wp2_with fail
          go_region
          go_wp2_with fail
          go_ret
          exact ⟨ret_bool (decide_eq_false HT.out).symm, HOD.out.1⟩
      · have e : k = zs.length := by omega
        subst e
        go_wp2_with fail
        go_ret
        refine ⟨ret_bool (decide_eq_true ?_).symm, H.out.2.1⟩
        have h1 := H.out.1
        rwa [List.take_length, HL.out, List.take_length] at h1
  · have hne : ¬ (zs.length : Int) = (ys.length : Int) := by omega
    go_enter Try.func12, Try.ntmps12
    go_wp2_with fail
    go_ret
    exact ⟨ret_bool (decide_eq_false (fun e => hl (by rw [e]))).symm, Below.refl _ _⟩

end Od
end Go.Proofs.Ytoknfhjclpdihaa
