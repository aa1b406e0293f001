import Derived.Test.YtbamhbfncddieaaOrd10x13
namespace Go.Proofs.Ytbamhbfncddieaa
namespace Od
open Go.RowKit
end Od
end Go.Proofs.Ytbamhbfncddieaa

namespace Go.Proofs.Ytbamhbfncddieaa
namespace Od
open Go.RowKit
end Od
end Go.Proofs.Ytbamhbfncddieaa

namespace Go.Proofs.Ytbamhbfncddieaa
namespace Od
open Go.RowKit
end Od
end Go.Proofs.Ytbamhbfncddieaa

namespace Go.Proofs.Ytbamhbfncddieaa
namespace Od
open Go.RowKit

theorem run_index_agg {P : Program} (w : World) (t e : TypeId) (n : Nat) (ty : TypeInfo) (cs : Array Value) (k : IntKind) (i : Nat) (ht : P.underlying t = some (.array n e)) (hi : P.info? e = some ty) (h : i < n) :
    (Instr.index t (.agg cs) (.int k (i : Int))).run P w = (part e cs (i * ty.size)).run P w := by
  simp [Instr.index, asIntOf, run_underlying ht, sizeOf, typeInfo, hi]
  intro hn
  omega
theorem cls_row (r : Int) : clsP r = (Uc.rrowP r).2.2.2.2.2.1 := by
  unfold clsP
  rw [Uc.book_tells r]
  rfl

/-- A block that begins with these ints. -/
def Blq (w : World) (b : Nat) (R : List Int) (T : List Value) : Prop := w.heap[b]? = some (.cells (ivs .i64 R ++ T).toArray 3)
theorem Blq.lt {w : World} {b : Nat} {R : List Int} {T : List Value} (h : Blq w b R T) : b < w.heap.size := (Array.getElem?_eq_some_iff.1 h).1
theorem Blq.cell {w : World} {b : Nat} {R : List Int} {T : List Value} (h : Blq w b R T) (k : Nat) (v : Int) (hk : R[k]? = some v) : w.cell? ⟨b, k, none⟩ = some (.int .i64 v) := by
  have h' : w.heap[b]? = _ := h
  have hlt : k < R.length := (List.getElem?_eq_some_iff.1 hk).1
  simp only [World.cell?, h', List.getElem?_toArray]
  rw [List.getElem?_append_left (by rw [ivs_len]; exact hlt)]
  simp [ivs, hk]
theorem Blq.frozen {w : World} {b : Nat} {R : List Int} {T : List Value} (h : Blq w b R T) (k : Nat) : w.frozen? ⟨b, k, none⟩ = false := by
  have h' : w.heap[b]? = _ := h
  simp [World.frozen?, h']
theorem Blq.set {w : World} {b : Nat} {R : List Int} {T : List Value} (h : Blq w b R T) (k : Nat) (v : Int) (hk : k < R.length) : Blq (w.setCell ⟨b, k, none⟩ (.int .i64 v)) b (R.set k v) T := by
  have h' : w.heap[b]? = _ := h
  have e : (ivs .i64 R ++ T).set k (.int .i64 v) = ivs .i64 (R.set k v) ++ T := by
    rw [List.set_append_left _ _ (by rw [ivs_len]; exact hk)]
    simp [ivs, List.map_set]
  simp [Blq, World.setCell, Array.getElem?_modify, h', e]
theorem Blq.other {w : World} {b g : Nat} {R : List Int} {T : List Value} (h : Blq w b R T) (k : Nat) (v : Value) (hg : b ≠ g) : Blq (w.setCell ⟨g, k, none⟩ v) b R T := (Below.heap_setCell _ _ _ _ hg).trans h
theorem Blq.step {w w' : World} {b : Nat} {R : List Int} {T : List Value} (h : Blq w b R T) (hb : Below w.heap.size w w') : Blq w' b R T := (hb.block b h.lt).trans h
theorem Blq.sl {w : World} {b : Nat} {R : List Int} {T : List Value} (h : Blq w b R T) (cap : Nat) (hc : R.length ≤ cap) : Sn .i64 w (.slice (some ⟨b, 0, none⟩) R.length cap) R :=
  ⟨_, cap, rfl, hc, fun e => (by cases e), fun j hj => ⟨b, 0, rfl, h.lt, by rw [Nat.zero_add]; exact h.cell _ _ (List.getElem?_eq_getElem hj)⟩⟩
theorem own_blq {w : World} {B : Nat} {v : Value} {l : List Int} (h : w.ownsRow B 3 1 v l.length (ivs .i64 l)) (hs : isSome v) : ∃ g cap T, v = .slice (some ⟨g, 0, none⟩) l.length cap ∧ l.length ≤ cap ∧ B ≤ g ∧ Blq w g l T := by
  rcases h.2 with ⟨h1, h2⟩ | ⟨g, cap, cur, rfl, h2, h3, h4, h5, h6, h7⟩
  · rw [h1] at hs; exact hs.elim
  · refine ⟨g, cap, cur.toList.drop l.length, rfl, h4, h2, ?_⟩
    show w.heap[g]? = _
    rw [h3]
    have e3 : (ivs .i64 l ++ cur.toList.drop l.length).toArray = cur := by
      have h10 : cur.toList.take l.length = ivs .i64 l := by simpa using h7
      rw [← h10, List.take_append_drop]
    rw [e3]

/-- What the reference's rounds keep: the numbers, and their classes. -/
structure RsW (w : World) (g gc : Nat) (T Tc : List Value) (cur : List Int) (W : World) : Prop where
  ne : g ≠ gc
  lo : w.heap.size ≤ g ∧ w.heap.size ≤ gc
  o : Blq W g cur T
  c : Blq W gc (cur.map clsP) Tc
  ok : Ok w.heap.size w W
theorem RsW.swap {w : World} {g gc : Nat} {T Tc : List Value} {A B : List Int} {x y : Int} {W : World} (h : RsW w g gc T Tc (A ++ x :: y :: B) W) (p q : Nat) (hp : p = A.length) (hq : q = A.length + 1) :
    RsW w g gc T Tc (A ++ y :: x :: B) ((((W.setCell ⟨g, q, none⟩ (.int .i64 x)).setCell ⟨gc, q, none⟩ (.int .i64 (clsP x))).setCell ⟨g, p, none⟩ (.int .i64 y)).setCell ⟨gc, p, none⟩ (.int .i64 (clsP y))) := by
  have e1 : ((A ++ x :: y :: B).set q x).set p y = A ++ y :: x :: B := by
    have := set_swap A [] B x y p q hp (by simpa using hq)
    rw [List.set_comm _ _ (by omega)] 
    simpa using this
  have e2 : (((A ++ x :: y :: B).map clsP).set q (clsP x)).set p (clsP y) = (A ++ y :: x :: B).map clsP := by
    rw [← List.map_set, ← List.map_set, e1]
  refine ⟨h.ne, h.lo, ?_, ?_, ?_⟩
  · have := ((((h.o.set q x (by simp; omega)).other q (.int .i64 (clsP x)) h.ne).set p y (by simp; omega)).other p (.int .i64 (clsP y)) h.ne)
    rwa [e1] at this
  · have := ((((h.c.other q (.int .i64 x) (Ne.symm h.ne)).set q (clsP x) (by simp; omega)).other p (.int .i64 y) (Ne.symm h.ne)).set p (clsP y) (by simp; omega))
    rwa [e2] at this
  · have hb := ((((h.ok.1.setCell (p := ⟨g, q, none⟩) h.lo.1 (.int .i64 x)).setCell (p := ⟨gc, q, none⟩) h.lo.2 (.int .i64 (clsP x))).setCell (p := ⟨g, p, none⟩) h.lo.1 (.int .i64 y)).setCell (p := ⟨gc, p, none⟩) h.lo.2 (.int .i64 (clsP y)))
    exact ⟨hb, by simpa [World.setCell] using h.ok.2⟩
theorem RsW.drew {w : World} {g gc : Nat} {T Tc : List Value} {cur : List Int} {W : World} (h : RsW w g gc T Tc cur W) : RsW w g gc T Tc cur W.drew := ⟨h.ne, h.lo, h.o, h.c, h.ok.step ((Below.refl _ _).drew)⟩
end Od
end Go.Proofs.Ytbamhbfncddieaa

namespace Go.Proofs.Ytbamhbfncddieaa
namespace Od
open Go.RowKit

/-- append(out, l...) onto an empty slice of the call's own. -/
theorem app_all {ops : Array Oper} {rest : List Oper} {o : Oper} {a : Act} {Q : Exit → Act → World → Prop} (hgd : o.guard = none) (s x : Operand)
    (ho : o.op = .call { callee := .builtin .append, args := #[s, x], argTypes := #[37, 37] }) (W : World) (B : Nat) (v : Value) (ad : Addr) (cap : Nat) (xs zs : List Int) (hs : a.eval s = v) (hx : a.eval x = .slice (some ad) zs.length cap)
    (hown : W.ownsRow B 3 1 v xs.length (ivs .i64 xs)) (hsv : isSome v) (hz : SlP .i64 W (some ad) cap zs) (hn : xs.length + zs.length ≤ 1000000000) (hB : B ≤ W.heap.size)
    (h : ∀ v' w', w'.ownsRow B 3 1 v' (xs ++ zs).length (ivs .i64 (xs ++ zs)) → isSome v' → Below B W w' → (∀ k, k < W.heap.size → v.ownBlock ≠ some k → w'.heap[k]? = W.heap[k]?) → wpList Try.prog ops Q rest (a.put o.dst v') w') :
    wpList Try.prog ops Q (o :: rest) a W := by
  obtain ⟨i0, hi, hz0, hz1, hz2⟩ := info_parts Try.info_i64
  refine wpList_append_own_at _ hgd s x 37 ho B 3 i0 (.int .i64 0) 1 8 Try.underlying37 hi hz0 hz1 hz2 rfl (by decide) v xs.length (ivs .i64 xs) hs hown ad zs.length cap (ivs .i64 zs) hx (by rw [ivs_len]; omega)
    (fun j u hj => ?_) (fun u hu => by simp [ivs] at hu; obtain ⟨z, _, rfl⟩ := hu; rfl) (by unfold maxLen; omega) (by omega) hB (fun v' w' h1 h2 h3 _ => h v' w' ?_ ?_ (below_of_grown h2 B hB (fun k e => (hown.lt k e).1)) (fun k hk hne => h2.block k hk (fun e => hne e.symm)))
  · have hlt : j < zs.length := by
      have := (List.getElem?_eq_some_iff.1 hj).1
      rwa [ivs_len] at this
    obtain ⟨b, off, e, hb, hc⟩ := hz.at_ j hlt
    simp at e
    subst e
    have e2 : (⟨b, off, none⟩ : Addr).add j = ⟨b, off + j, none⟩ := by unfold Addr.add; split <;> simp_all
    rw [e2, hc]
    simp [ivs, hlt] at hj
    rw [hj]
  · have e : ivs .i64 xs ++ ivs .i64 zs = ivs .i64 (xs ++ zs) := by simp [ivs]
    rw [List.length_append, ← e]; exact h1
  · rcases h1.2 with ⟨e1, _⟩ | ⟨g, cap', cur, rfl, _⟩
    · rw [(h3.1 e1).1] at hsv; exact hsv.elim
    · trivial

end Od
end Go.Proofs.Ytbamhbfncddieaa

namespace Go.Proofs.Ytbamhbfncddieaa
namespace Od
open Go.RowKit

theorem awake_srt : srt clsP [97, 769, 803] = [97, 803, 769] := by
  have h1 : clsP 97 = 0 := by kernel_rfl
  have h2 : clsP 769 = 230 := by kernel_rfl
  have h3 : clsP 803 = 220 := by kernel_rfl
  simp only [srt, ins]
  rw [h2, h3]
  simp [ins, h1, h3]

theorem sl3 (k : IntKind) (w : World) (t : TypeId) (x y z : Int) (N : Nat) (hN : N = w.heap.size) : Sn k (w.alloc (.cells #[.int k x, .int k y, .int k z] t)) (.slice (some ⟨N, 0, none⟩) 3 3) [x, y, z] := by
  subst hN
  have hb := heap_new w (.cells #[.int k x, .int k y, .int k z] t)
  refine ⟨_, 3, rfl, Nat.le_refl _, fun e => (by cases e), fun j hj => ⟨w.heap.size, 0, rfl, by simp, ?_⟩⟩
  simp only [World.cell?, hb]
  match j, hj with
  | 0, _ => rfl
  | 1, _ => rfl
  | 2, _ => rfl


/-- A law's slice of runes. -/
theorem row_sl {w : World} {a : Option Addr} {len cap : Nat} {zs : List Int} (h : (a = none ∧ len = 0 ∧ cap = 0 ∧ zs = []) ∨ ∃ x, a = some x ∧ len ≤ cap ∧ cap ≤ maxLen ∧ zs.length = cap ∧ (∀ i, i < zs.length → w.cell? (x.add i) = some (.int .i32 (zs.getD i 0))) ∧ ∀ n ∈ zs, (Lit.int .i32 n).wf = true) : (zs.take len).length = len ∧ SlP .i32 w a cap (zs.take len) ∧ ∀ y ∈ zs.take len, -2147483648 ≤ y ∧ y ≤ 2147483647 := by
  rcases h with ⟨rfl, rfl, rfl, rfl⟩ | ⟨x, rfl, hl, hm, hz, hcell, hwz⟩
  · exact ⟨rfl, ⟨Nat.le_refl _, fun _ => ⟨rfl, rfl⟩, fun k hk => by simp at hk⟩, fun y hy => by simp at hy⟩
  · have hlen : (zs.take len).length = len := by rw [List.length_take]; omega
    refine ⟨hlen, ⟨by omega, fun e => (by cases e), fun k hk => ?_⟩, fun y hy => by have h := hwz y (List.mem_of_mem_take hy); simp only [Lit.wf, Bool.and_eq_true, decide_eq_true_eq] at h; exact h⟩
    rw [hlen] at hk
    obtain ⟨b, off, spot⟩ := x
    have hc := hcell k (by omega)
    have hspot : spot = none := by simpa [Addr.add] using World.cell?_spot (hcell 0 (by omega))
    subst hspot
    have hadd : (⟨b, off, none⟩ : Addr).add k = ⟨b, off + k, none⟩ := by unfold Addr.add; split <;> simp_all
    rw [hadd] at hc
    refine ⟨b, off, rfl, World.block_lt_of_cell? w _ hc, ?_⟩
    rw [hc, List.getElem_take]
    simp [List.getD_eq_getElem?_getD, List.getElem?_eq_getElem (show k < zs.length by omega)]
theorem bd_srt {zs : List Int} (h : ∀ y ∈ zs, -2147483648 ≤ y ∧ y ≤ 2147483647) : ∀ y ∈ srt clsP zs, -2147483648 ≤ y ∧ y ≤ 2147483647 := fun y hy => h y ((sw_srt clsP zs).perm.mem_iff.2 hy)
end Od
end Go.Proofs.Ytbamhbfncddieaa
