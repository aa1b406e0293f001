import Derived.Test.YtemdmalcoemhnaaOrd2
namespace Go.Proofs.Ytemdmalcoemhnaa
namespace Od
open Go.RowKit

/-- What cmp.Compare tells. -/
def cmpI (a b : Int) : Int := if a < b then -1 else if b < a then 1 else 0
theorem cmpI_lt (a b : Int) : cmpI a b < 0 ↔ a < b := by
  unfold cmpI
  split
  · simp [*]
  · split <;> omega

/-- Classes rise. -/
def Pw (c : Int → Int) (l : List Int) : Prop := l.Pairwise (fun x y => c x ≤ c y)
theorem Pw.ord {c : Int → Int} : ∀ {l : List Int}, Pw c l → Ord c l
  | [], _ => trivial
  | [_], _ => trivial
  | x :: y :: l, h => by
    have h1 := List.pairwise_cons.1 h
    exact ⟨by have := h1.1 y (by simp); omega, Pw.ord h1.2⟩
theorem Pw.put {c : Int → Int} {P Q : List Int} {x : Int} (h : Pw c (P ++ Q)) (h1 : ∀ p ∈ P, c p ≤ c x) (h2 : ∀ q ∈ Q, c x < c q) : Pw c (P ++ x :: Q) := by
  unfold Pw at h ⊢
  rw [List.pairwise_append] at h ⊢
  refine ⟨h.1, List.pairwise_cons.2 ⟨fun q hq => Int.le_of_lt (h2 q hq), h.2.1⟩, fun p hp q hq => ?_⟩
  rcases List.mem_cons.1 hq with rfl | hq
  · exact h1 p hp
  · exact h.2.2 p hp q hq
theorem Pw.last {c : Int → Int} {P : List Int} {p x : Int} (h : Pw c (P ++ [p])) (h1 : c p ≤ c x) : ∀ q ∈ P ++ [p], c q ≤ c x := by
  intro q hq
  unfold Pw at h
  rw [List.pairwise_append] at h
  rcases List.mem_append.1 hq with hq | hq
  · have := h.2.2 q hq p (by simp); omega
  · simp at hq; subst hq; exact h1

/-- What a walk through a row keeps. -/
def St (G : World → Prop) (b : Nat) (w0 : World) (R : List Int) (T : List Value) (W : World) : Prop := Blk W b R T ∧ G W ∧ Alt b w0 W
/-- A row whose X has been turned into Y. -/
def Row (c : Int → Int) (G : World → Prop) (b : Nat) (w0 : World) (A X B : List Int) (T : List Value) (Y : List Int) (W : World) : Prop := Sw c X Y ∧ St G b w0 (A ++ Y ++ B) T W

theorem Row.pos {c : Int → Int} {G : World → Prop} {b : Nat} {w0 : World} {A X B : List Int} {T : List Value} {Y : List Int} {W : World} (h : Row c G b w0 A X B T Y W) (hp : ∀ x ∈ X, 0 < c x) : ∀ y ∈ Y, 0 < c y := fun y hy => hp y (h.1.perm.mem_iff.2 hy)
theorem Row.get {c : Int → Int} {G : World → Prop} {b : Nat} {w0 W : World} {A X B Y : List Int} {T : List Value} (h : Row c G b w0 A X B T Y W) (k : Nat) (v : Int) (hk : Y[k]? = some v) (p : Nat) (hp : p = A.length + k) : W.cell? ⟨b, p, none⟩ = some (.int .i32 v) := by
  subst hp
  refine h.2.1.cell _ _ ?_
  have hlt := (List.getElem?_eq_some_iff.1 hk).1
  rw [List.append_assoc, List.getElem?_append_right (by omega), Nat.add_sub_cancel_left, List.getElem?_append_left hlt, hk]
theorem Row.frozen {c : Int → Int} {G : World → Prop} {b : Nat} {w0 W : World} {A X B Y : List Int} {T : List Value} (h : Row c G b w0 A X B T Y W) (p : Nat) : W.frozen? ⟨b, p, none⟩ = false := h.2.1.frozen p
end Od
end Go.Proofs.Ytemdmalcoemhnaa
