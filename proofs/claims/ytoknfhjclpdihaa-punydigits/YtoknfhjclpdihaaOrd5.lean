import Derived.Test.YtoknfhjclpdihaaOrd4
namespace Go.Proofs.Ytoknfhjclpdihaa
namespace Od
open Go.RowKit

theorem Pw.at {c : Int → Int} {l : List Int} (h : Pw c l) (i j : Nat) (hij : i ≤ j) (hj : j < l.length) : c (l.getD i 0) ≤ c (l.getD j 0) := by
  rcases Nat.lt_or_eq_of_le hij with h1 | rfl
  · have := List.pairwise_iff_getElem.1 h i j (by omega) hj h1
    simpa [List.getD_eq_getElem?_getD, List.getElem?_eq_getElem hj, List.getElem?_eq_getElem (show i < l.length by omega)] using this
  · exact Int.le_refl _

/-- The predicate that is looked for. -/
def Lss (c : Int → Int) (Y1 Y2 : List Int) (D k : Nat) : Prop := c (Y2.getD (D - 1 - k) 0) < c (Y1.getD k 0)
theorem Lss.mono {c : Int → Int} {Y1 Y2 : List Int} {D k k' : Nat} (h1 : Pw c Y1) (h2 : Pw c Y2) (hk : k ≤ k') (hy1 : k' < Y1.length) (hy2 : D - 1 - k < Y2.length) (h : Lss c Y1 Y2 D k) : Lss c Y1 Y2 D k' := by
  have a1 := h1.at k k' hk hy1
  have a2 := h2.at (D - 1 - k') (D - 1 - k) (by omega) hy2
  unfold Lss at h ⊢
  omega

theorem mem_take_getD {l : List Int} {n : Nat} {x : Int} (h : x ∈ l.take n) : ∃ i, i < n ∧ i < l.length ∧ l.getD i 0 = x := by
  obtain ⟨i, hi, e⟩ := List.mem_iff_getElem.1 h
  rw [List.length_take] at hi
  refine ⟨i, by omega, by omega, ?_⟩
  rw [List.getElem_take] at e
  simp [List.getD_eq_getElem?_getD, List.getElem?_eq_getElem (show i < l.length by omega), e]
theorem mem_drop_getD {l : List Int} {n : Nat} {x : Int} (h : x ∈ l.drop n) : ∃ i, n ≤ i ∧ i < l.length ∧ l.getD i 0 = x := by
  obtain ⟨i, hi, e⟩ := List.mem_iff_getElem.1 h
  rw [List.length_drop] at hi
  refine ⟨n + i, by omega, by omega, ?_⟩
  rw [List.getElem_drop] at e
  simp [List.getD_eq_getElem?_getD, List.getElem?_eq_getElem (show n + i < l.length by omega), e]

/-- What the look has found: what goes to the other half. -/
theorem sym_parts {c : Int → Int} {Y1 Y2 : List Int} {D u u0 v0 : Nat} (h1 : Pw c Y1) (h2 : Pw c Y2) (hu0 : u0 ≤ u) (huv : u ≤ v0) (hv0 : v0 ≤ Y1.length) (hvD : v0 ≤ D) (hD : D ≤ u0 + Y2.length) (hv : v0 = D ∨ v0 = Y1.length) (hu : u0 = 0 ∨ D = u0 + Y2.length)
    (hlo : ∀ k, u0 ≤ k → k < u → ¬ Lss c Y1 Y2 D k) (hhi : ∀ k, u ≤ k → k < v0 → Lss c Y1 Y2 D k) :
    (∀ x ∈ Y1.drop u, ∀ y ∈ Y2.take (D - u), c y < c x) ∧ (∀ x ∈ Y1.take u, ∀ y ∈ Y2.drop (D - u), c x ≤ c y) := by
  refine ⟨fun x hx y hy => ?_, fun x hx y hy => ?_⟩
  · obtain ⟨i, i1, i2, rfl⟩ := mem_drop_getD hx
    obtain ⟨j, j1, j2, rfl⟩ := mem_take_getD hy
    have h3 := hhi u (Nat.le_refl _) (by omega)
    have a1 := h1.at u i i1 i2
    have a2 := h2.at j (D - 1 - u) (by omega) (by omega)
    unfold Lss at h3
    omega
  · obtain ⟨i, i1, i2, rfl⟩ := mem_take_getD hx
    obtain ⟨j, j1, j2, rfl⟩ := mem_drop_getD hy
    have h3 := hlo (u - 1) (by omega) (by omega)
    have a1 := h1.at i (u - 1) (by omega) (by omega)
    have a2 := h2.at (D - u) j j1 j2
    unfold Lss at h3
    rw [show D - 1 - (u - 1) = D - u by omega] at h3
    omega

theorem Row.sub {c : Int → Int} {G : World → Prop} {b : Nat} {w w1 w2 : World} {A X B U Y V Y' : List Int} {T : List Value} (h : Row c G b w A X B T (U ++ Y ++ V) w1) (h' : Row c G b w1 (A ++ U) Y (V ++ B) T Y' w2) : Row c G b w A X B T (U ++ Y' ++ V) w2 := by
  refine ⟨h.1.trans (h'.1.ctx U V), ?_, h'.2.2.1, h.2.2.2.trans h'.2.2.2⟩
  have := h'.2.1
  simpa using this
theorem Row.blk {c : Int → Int} {G : World → Prop} {b : Nat} {w w1 : World} {A X B U Y V : List Int} {T : List Value} (h : Row c G b w A X B T (U ++ Y ++ V) w1) : Blk w1 b (A ++ U ++ Y ++ (V ++ B)) T := by
  have := h.2.1
  simpa using this

/-- Both halves, each in order, make the whole. -/
theorem sym_whole {c : Int → Int} {L1 R1 L2 R2 Z1 Z2 : List Int} (h1 : Pw c (L1 ++ R1)) (h2 : Pw c (L2 ++ R2)) (h3 : ∀ x ∈ R1, ∀ y ∈ L2, c y < c x) (h4 : ∀ x ∈ L1, ∀ y ∈ R2, c x ≤ c y) (z1 : Pw c Z1) (z2 : Pw c Z2) (p1 : (L1 ++ L2).Perm Z1) (p2 : (R1 ++ R2).Perm Z2) : Pw c (Z1 ++ Z2) := by
  have a1 := List.pairwise_append.1 h1
  have a2 := List.pairwise_append.1 h2
  refine List.pairwise_append.2 ⟨z1, z2, fun x hx y hy => ?_⟩
  have hx := p1.mem_iff.2 hx
  have hy := p2.mem_iff.2 hy
  rcases List.mem_append.1 hx with hx | hx <;> rcases List.mem_append.1 hy with hy | hy
  · exact a1.2.2 x hx y hy
  · exact h4 x hx y hy
  · exact Int.le_of_lt (h3 y hy x hx)
  · exact a2.2.2 x hx y hy
theorem pw_left {c : Int → Int} {X Y : List Int} (h : Pw c X) (e : Y = []) : Pw c (X ++ Y) := by rw [e, List.append_nil]; exact h
theorem pw_right {c : Int → Int} {X Y : List Int} (h : Pw c Y) (e : X = []) : Pw c (X ++ Y) := by rw [e]; exact h

/-- What symMerge promises of parts that are not longer than N together. -/
def SymOk (c : Int → Int) (G : World → Prop) (cb : Array Value) (b off cap len : Nat) (T : List Value) (N : Nat) : Prop :=
  ∀ (w : World) (a m n : Nat) (A Y1 Y2 B : List Int), n - a ≤ N → Blk w b (A ++ (Y1 ++ Y2) ++ B) T → G w → A.length = off + a → a + Y1.length = m → m + Y2.length = n → a < m → m < n → n ≤ len → (∀ y ∈ Y1 ++ Y2, 0 < c y) → Pw c Y1 → Pw c Y2 →
    Calls Try.prog 47 #[.slice (some ⟨b, off, none⟩) len cap, .int .i64 a, .int .i64 m, .int .i64 n, .func (.func 36) #[] cb] w fun e w' => e = .returned (.tuple #[]) ∧ ∃ X', Pw c X' ∧ Row c G b w A (Y1 ++ Y2) B T X' w'

end Od
end Go.Proofs.Ytoknfhjclpdihaa
