import Derived.Test.YtoknfhjclpdihaaPu20
namespace Go.Proofs.Ytoknfhjclpdihaa
namespace Pu
open Go.RowKit Od

theorem Try.info_rn : (Try.prog.info? 21).map (fun i => (i.zero, i.size, i.bytes)) = some (some (.int .i32 0), 1, 4) := by kernel_rfl
/-- A block of runes. -/
def Ro (W : World) (g : Nat) (O : List Int) : Prop := W.heap[g]? = some (.cells (ivs .i32 O).toArray 21)
theorem ivs_len (k : IntKind) (O : List Int) : (ivs k O).length = O.length := by unfold ivs; rw [List.length_map]
theorem Ro.lt {w : World} {b : Nat} {R : List Int} (h : Ro w b R) : b < w.heap.size := (Array.getElem?_eq_some_iff.1 h).1
theorem Ro.cell {w : World} {b : Nat} {R : List Int} (h : Ro w b R) (k : Nat) (v : Int) (hk : R[k]? = some v) : w.cell? ⟨b, k, none⟩ = some (.int .i32 v) := by
  have h' : w.heap[b]? = _ := h
  simp only [World.cell?, h', List.getElem?_toArray]
  simp [ivs, hk]
theorem Ro.frozen {w : World} {b : Nat} {R : List Int} (h : Ro w b R) (k : Nat) : w.frozen? ⟨b, k, none⟩ = false := by
  have h' : w.heap[b]? = _ := h
  simp [World.frozen?, h']
theorem Ro.drew {w : World} {b : Nat} {R : List Int} (h : Ro w b R) : Ro w.drew b R := h
theorem Ro.set {w : World} {b : Nat} {R : List Int} (h : Ro w b R) (k : Nat) (v : Int) : Ro (w.setCell ⟨b, k, none⟩ (.int .i32 v)) b (R.set k v) := by
  have h' : w.heap[b]? = _ := h
  have e : (ivs .i32 R).set k (.int .i32 v) = ivs .i32 (R.set k v) := by
    simp [ivs, List.map_set]
  simp [Ro, World.setCell, Array.getElem?_modify, h', e]
theorem Ro.step {w w' : World} {b : Nat} {R : List Int} (h : Ro w b R) (hb : Below w.heap.size w w') : Ro w' b R := (hb.block b h.lt).trans h
theorem Ro.alt {w w' : World} {b g : Nat} {R : List Int} (h : Ro w b R) (hb : Alt g w w') (hg : b ≠ g) : Ro w' b R := (hb.block b h.lt hg).trans h
theorem Kc.ro {N b : Nat} {A B : World} {R : List Int} (h : Kc N A B) (hb : Ro A b R) : Ro B b R := h.same b _ hb (.inr rfl)

/-- What putIn holds: the row that it makes, its tally of free places, and the boxes of both. -/
structure PW (w : World) (N g o5 b o6 : Nat) (O a : List Int) (W : World) : Prop where
  bel : Below w.heap.size w W
  ro : Ro W g O
  b5 : Bx W o5 (.slice (some ⟨g, 0, none⟩) N N) 22
  b6 : Bx W o6 (.slice (some ⟨b, 0, none⟩) (N + 1) (N + 1)) 48
  tl : ∃ R, Blk W b R [] ∧ Tal R a ∧ R.length = N + 1
theorem bx_alt {w w' : World} {b g : Nat} {v : Value} {t : TypeId} (h : Bx w b v t) (hb : Alt g w w') (hg : b ≠ g) : Bx w' b v t := (hb.block b h.lt hg).trans h
/-- Which are all apart. -/
structure Ap (w : World) (g o5 b o6 : Nat) : Prop where
  g0 : w.heap.size ≤ g
  b0 : w.heap.size ≤ b
  gb : g ≠ b
  g5 : o5 ≠ g
  g6 : o6 ≠ g
  b5 : o5 ≠ b
  b6 : o6 ≠ b
theorem PW.step {w : World} {N g o5 b o6 : Nat} {O a : List Int} {A B : World} (h : PW w N g o5 b o6 O a A) (hb : Below A.heap.size A B) : PW w N g o5 b o6 O a B := by
  obtain ⟨R, h1, h2, h3⟩ := h.tl
  exact ⟨h.bel.trans (hb.mono h.bel.size), h.ro.step hb, h.b5.step hb, h.b6.step hb, R, h1.step hb, h2, h3⟩
theorem PW.keep {w : World} {N g o5 b o6 n0 : Nat} {O a : List Int} {A B : World} (h : PW w N g o5 b o6 O a A) (hk : Kc n0 A B) (hN : w.heap.size ≤ n0) : PW w N g o5 b o6 O a B := by
  obtain ⟨R, h1, h2, h3⟩ := h.tl
  exact ⟨hk.below h.bel hN (Nat.le_refl _), Kc.ro hk h.ro, hk.bx h.b5, hk.bx h.b6, R, hk.same _ _ h1 (.inr rfl), h2, h3⟩
theorem PW.turn {w : World} {N g o5 b o6 : Nat} {O a a' : List Int} {A B : World} (h : PW w N g o5 b o6 O a A) (ha : Ap w g o5 b o6) (hb : Alt b A B) (ht : ∃ R, Blk B b R [] ∧ Tal R a' ∧ R.length = N + 1) : PW w N g o5 b o6 O a' B :=
  ⟨h.bel.trans (hb.below h.bel.size ha.b0), h.ro.alt hb ha.gb, (hb.block _ h.b5.lt ha.b5).trans h.b5, (hb.block _ h.b6.lt ha.b6).trans h.b6, ht⟩
theorem PW.store {w : World} {N g o5 b o6 : Nat} {O a : List Int} {A : World} (h : PW w N g o5 b o6 O a A) (ha : Ap w g o5 b o6) (k : Nat) (v : Int) : PW w N g o5 b o6 (O.set k v) a (A.setCell ⟨g, k, none⟩ (.int .i32 v)) := by
  obtain ⟨R, h1, h2, h3⟩ := h.tl
  have hb : Alt g A (A.setCell ⟨g, k, none⟩ (.int .i32 v)) := (Alt.refl g A).set _ _
  exact ⟨h.bel.trans (hb.below h.bel.size ha.g0), h.ro.set k v, (hb.block _ h.b5.lt ha.g5).trans h.b5, (hb.block _ h.b6.lt ha.g6).trans h.b6, R, (hb.block b h1.lt (Ne.symm ha.gb)).trans h1, h2, h3⟩

/-- So many ones, and zeros behind. -/
def onL (N k : Nat) : List Int := (List.range N).map fun i => if i < k then 1 else 0
theorem onL_len (N k : Nat) : (onL N k).length = N := by unfold onL; simp
theorem onL_get (N k i : Nat) (h : i < (onL N k).length) : (onL N k)[i] = if i < k then 1 else 0 := by
  have e := (List.getElem_map (fun i => if i < k then (1 : Int) else 0) (l := List.range N) (h := by simpa [onL] using h))
  rw [List.getElem_range] at e
  exact e
theorem onL_zero (N : Nat) : onL N 0 = List.replicate N 0 := by
  apply List.ext_getElem
  · rw [onL_len]; simp
  · intro i h1 h2
    rw [onL_get]; simp
theorem onL_fr (N : Nat) : onL N N = fr (List.replicate N 0) := by
  apply List.ext_getElem
  · rw [onL_len, fr_len]; simp
  · intro i h1 h2
    rw [onL_get, fr_get]
    rw [onL_len] at h1
    simp [h1]
theorem onL_step (N k : Nat) (h : k < (onL N k).length) : (onL N k).set k ((onL N k)[k] + 1) = onL N (k + 1) := by
  rw [onL_get, if_neg (by omega)]
  apply List.ext_getElem
  · rw [List.length_set, onL_len, onL_len]
  · intro i h1 h2
    rw [List.getElem_set, onL_get, onL_get]
    split
    · subst_vars; simp
    · by_cases h : i < k
      · rw [if_pos h, if_pos (by omega)]
      · rw [if_neg h, if_neg (by omega)]
end Pu
end Go.Proofs.Ytoknfhjclpdihaa
