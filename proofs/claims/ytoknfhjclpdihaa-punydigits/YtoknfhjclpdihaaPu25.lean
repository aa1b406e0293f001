import Derived.Test.YtoknfhjclpdihaaPu24
namespace Go.Proofs.Ytoknfhjclpdihaa
namespace Pu
open Go.RowKit Od

theorem rdD_pos (bi : Int) : ∀ (l : List Int) (pl c k p2 : Int) (rest : List Int), 0 ≤ pl → 1 ≤ c → rdD bi l pl c k = .inr (p2, rest) → 0 ≤ p2
  | [], _, _, _, _, _, _, _, h => by simp [rdD] at h
  | b :: l, pl, c, k, p2, rest, h0, hc, h => by
    simp only [rdD] at h
    split at h
    · cases h
    · have hv : 0 ≤ vlP b * c := Int.mul_nonneg (by omega) (by omega)
      split at h
      · cases h
      · split at h
        · injection h with h
          injection h with h _
          omega
        · split at h
          · cases h
          · have ht := th_bd k bi
            have hc2 : 1 * 1 ≤ c * (36 - thP k bi) := Int.mul_le_mul hc (by omega) (by omega) (by omega)
            exact rdD_pos bi l _ _ _ p2 rest (by omega) (by omega) h
theorem EntOk.snoc {low : Nat} {es : List Ent} {e : Ent} (h : EntOk low es) (h1 : 128 ≤ e.1 ∧ e.1 ≤ 1114111 ∧ 0 ≤ e.2 ∧ e.2 ≤ (low : Int) + es.length) : EntOk low (es ++ [e]) := by
  intro k hk
  by_cases hlt : k < es.length
  · rw [List.getElem_append_left hlt]
    exact h k hlt
  · rw [List.length_append] at hk
    have hk' : k = es.length := by simp at hk; omega
    subst hk'
    rw [List.getElem_append_right (Nat.le_refl _)]
    simp only [Nat.sub_self, List.getElem_cons_zero]
    exact h1
theorem rdS_ok (low : Nat) : ∀ (f : Nat) (s : DS) (l : List Int) (es : List Ent), EntOk low s.out → s.st = low + s.out.length → 128 ≤ s.n → s.n ≤ 1114111 → 0 ≤ s.place → rdS f s l = .inr es → EntOk low es ∧ es.length ≤ s.out.length + l.length
  | 0, s, l, es, h1, _, _, _, _, h => by
    simp only [rdS] at h
    injection h with h
    subst h
    exact ⟨h1, by omega⟩
  | f + 1, s, [], es, h1, _, _, _, _, h => by
    simp only [rdS] at h
    injection h with h
    subst h
    exact ⟨h1, by omega⟩
  | f + 1, s, b :: l, es, h1, h2, h3, h4, h5, h => by
    rw [rdS_step f s _ (by simp)] at h
    revert h
    cases hD : rdD s.bias (b :: l) s.place 1 36 with
    | inl e => intro h; cases h
    | inr p =>
      obtain ⟨p2, rest⟩ := p
      have hp := rdD_pos _ _ _ _ _ _ _ h5 (by omega) hD
      have hl := rdD_len _ _ _ _ _ _ _ hD
      simp only
      intro h
      split at h
      · cases h
      · split at h
        · cases h
        · have hq : 0 ≤ p2 / ((s.st : Int) + 1) := Int.ediv_nonneg hp (by omega)
          have hm := Int.emod_nonneg p2 (b := (s.st : Int) + 1) (by omega)
          have hm2 := Int.emod_lt_of_pos p2 (b := (s.st : Int) + 1) (by omega)
          have := rdS_ok low f _ rest es (h1.snoc ⟨by simp only; omega, by simp only; omega, hm, by simp only; omega⟩) (by simp only [List.length_append, List.length_singleton]; omega) (by simp only; omega) (by simp only; omega) (by simp only; omega) h
          refine ⟨this.1, ?_⟩
          have h7 := this.2
          simp only [List.length_append, List.length_singleton] at h7
          omega
/-- What Decode answers, where the last hyphen stands at i (or none does, and i is -1). -/
def decP (L : List Int) (i : Int) : Sum Int (List Int) :=
  if (L.take i.toNat).any (fun b => decide (128 ≤ b)) then .inl 9
  else match rdS (L.drop (i + 1).toNat).length ⟨128, 0, 72, (L.take i.toNat).length, []⟩ (L.drop (i + 1).toNat) with
    | .inl e => .inl e
    | .inr es => .inr (putL (L.take i.toNat) es)
def decV (r : Sum Int (List Int)) (e : Ending) (w w' : World) : Prop := match r with
  | .inl x => e = .returned (.tuple #[.slice none 0 0, .int .i64 x])
  | .inr l => ∃ g, e = .returned (.tuple #[.slice (some ⟨g, 0, none⟩) l.length l.length, .int .i64 0]) ∧ w.heap.size ≤ g ∧ Ro w' g l
/-- Where the last hyphen stands. -/
def Hy (L : List Int) (i : Int) : Prop := -1 ≤ i ∧ i < L.length ∧ (∀ k : Nat, (h : k < L.length) → i < k → L[k] ≠ 45) ∧ (∀ k : Nat, i = k → (h : k < L.length) → L[k] = 45)
theorem bsI_take (s : ByteArray) (n : Nat) : bsI (s.extract 0 n) = (bsI s).take n := by
  unfold bsI
  rw [← List.map_take]
  congr 1
  simp
theorem bsI_dropE (s : ByteArray) (n : Nat) : bsI (s.extract n s.size) = (bsI s).drop n := by
  unfold bsI
  rw [ext_end, List.map_drop]
end Pu
end Go.Proofs.Ytoknfhjclpdihaa
