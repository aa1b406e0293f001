import Derived.Test.YtoknfhjclpdihaaPu22
namespace Go.Proofs.Ytoknfhjclpdihaa
namespace Pu
open Go.RowKit Od

theorem made_zero32 (n : Nat) : madeCells #[.int .i32 0] n = (ivs .i32 (List.replicate n 0)).toArray := by
  apply Array.ext
  · simp [madeCells, ivs]
  · intro i h1 h2
    simp [madeCells, ivs, Nat.mod_one]
theorem cell_below {w W : World} (h : Below w.heap.size w W) {b o : Nat} {v : Value} (hc : w.cell? ⟨b, o, none⟩ = some v) : W.cell? ⟨b, o, none⟩ = some v := by
  by_cases hlt : b < w.heap.size
  · have e := h.block b hlt
    simp only [World.cell?, e] at hc ⊢
    exact hc
  · have e : w.heap[b]? = none := Array.getElem?_eq_none (by omega)
    simp [World.cell?, e] at hc
theorem mg_get : ∀ (O M : List Int) (i : Nat) (h : i < O.length), (mg O M)[i]'(by rw [mg_len]; exact h) = if O[i] = 0 then M.getD (ps (fr O) i).toNat 0 else O[i]
  | [], _, _, h => by simp at h
  | o :: O, M, 0, h => by
    rw [ps_0]
    unfold mg
    by_cases ho : o = 0
    · simp only [ho, if_true, List.getElem_cons_zero]
      cases M <;> rfl
    · simp only [ho, if_false, List.getElem_cons_zero]
  | o :: O, M, i + 1, h => by
    have h' : i < O.length := by simpa using h
    have e : fr (o :: O) = (if o = 0 then 1 else 0) :: fr O := rfl
    have hb := (ps_bd (fr O) (fr_bd O) i).1
    rw [e, ps_cons]
    unfold mg
    by_cases ho : o = 0
    · simp only [ho, if_true, List.getElem_cons_succ]
      rw [mg_get O M.tail i h']
      have e2 : (1 + ps (fr O) i).toNat = (ps (fr O) i).toNat + 1 := by omega
      rw [e2]
      cases M with
      | nil => simp
      | cons m M => simp
    · simp only [ho, if_false, List.getElem_cons_succ]
      rw [mg_get O M i h']
      simp
/-- Two rows, the first so far. -/
def two (A B : List Int) (i : Nat) : List Int := A.take i ++ B.drop i
theorem two_step {A B : List Int} {i : Nat} (hl : A.length = B.length) (hi : i < B.length) : two A B (i + 1) = (two A B i).set i (A[i]'(by omega)) := by
  unfold two
  have e1 : A.take (i + 1) = A.take i ++ [A[i]'(by omega)] := by rw [List.take_add_one, List.getElem?_eq_getElem (by omega)]; rfl
  have e2 : B.drop i = B[i] :: B.drop (i + 1) := List.drop_eq_getElem_cons hi
  have e3 : (A.take i).length = i := by rw [List.length_take]; omega
  rw [e1, e2, List.set_append_right _ _ (by omega), e3, Nat.sub_self, List.set_cons_zero, List.append_assoc]
  rfl
theorem two_get {A B : List Int} {i : Nat} (hl : A.length = B.length) (hi : i < B.length) : (two A B i)[i]? = some B[i] := by
  unfold two
  have e3 : (A.take i).length = i := by rw [List.length_take]; omega
  rw [List.getElem?_append_right (by omega), e3, Nat.sub_self, List.getElem?_drop, Nat.add_zero, List.getElem?_eq_getElem hi]
theorem two_same {A B : List Int} {i : Nat} (hl : A.length = B.length) (hi : i < B.length) (he : A[i]'(by omega) = B[i]) : two A B (i + 1) = two A B i := by
  rw [two_step hl hi, he]
  obtain ⟨h, e⟩ := List.getElem?_eq_some_iff.1 (two_get hl hi)
  rw [← e, List.set_getElem_self]
theorem two_fin {A B : List Int} (hl : A.length = B.length) : two A B B.length = A := by
  unfold two
  rw [List.drop_length, List.append_nil, ← hl, List.take_length]
/-- What is told of the entries, as long as the loop goes on. -/
def IB (w : World) (low : List Int) (es : List Ent) (N g o5 b o6 : Nat) (ao : Option Addr) (cap pb : Nat) (pre : List (Nat × Ent)) (W : World) : Prop :=
  ∃ O, PW w N g o5 b o6 O (fr O) W ∧ PI low es (es.length - pre.length) O ∧ Bx W pb (.slice ao es.length cap) 56
theorem tb_len (es : List Ent) (k : Nat) : (tb es k).length = k := by unfold tb; simp
end Pu
end Go.Proofs.Ytoknfhjclpdihaa
