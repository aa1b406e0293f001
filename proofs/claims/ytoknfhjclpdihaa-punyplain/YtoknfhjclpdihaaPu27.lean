import Derived.Test.YtoknfhjclpdihaaPu26
namespace Go.Proofs.Ytoknfhjclpdihaa
namespace Pu
open Go.RowKit Od

theorem dec_small (s : ByteArray) (hs : s.size ≤ 120) (w : World) :
    Calls Try.prog 11 #[.string s] w fun e w' => (∃ i, Hy (bsI s) i ∧ decV (decP (bsI s) i) e w w') ∧ Below w.heap.size w w' := by
  refine dec_any s (by omega) w fun i es hy h => ?_
  have h2 := (rdS_ok ((bsI s).take i.toNat).length _ _ _ es (fun k hk => by simp at hk) rfl (by simp) (by simp) (by simp) h).2
  have h3 := bsI_len s
  rw [List.length_drop] at h2
  rw [List.length_take]
  simp at h2
  omega
theorem aw_e1 : encP [252] = [116, 100, 97] := by kernel_rfl
theorem aw_e2 : encP [98, 252, 99, 104, 101, 114] = [98, 99, 104, 101, 114, 45, 107, 118, 97] := by kernel_rfl
theorem aw_b1 : byt [116, 100, 97] = ⟨#[116, 100, 97]⟩ := by kernel_rfl
theorem aw_b2 : byt [98, 99, 104, 101, 114, 45, 107, 118, 97] = ⟨#[98, 99, 104, 101, 114, 45, 107, 118, 97]⟩ := by kernel_rfl
def kva : ByteArray := ⟨#[98, 99, 104, 101, 114, 45, 107, 118, 97]⟩
theorem aw_s : bsI kva = [98, 99, 104, 101, 114, 45, 107, 118, 97] := by kernel_rfl
theorem aw_d : decP [98, 99, 104, 101, 114, 45, 107, 118, 97] 5 = .inr [98, 252, 99, 104, 101, 114] := by kernel_rfl
theorem aw_h {i : Int} (h : Hy [98, 99, 104, 101, 114, 45, 107, 118, 97] i) : i = 5 := by
  obtain ⟨h1, h2, h3, h4⟩ := h
  have h2' : i < 9 := h2
  have h5 : 5 ≤ i := by
    by_cases hc : i < 5
    · exact absurd rfl (h3 5 (by decide) hc)
    · omega
  have h6 : i = 5 ∨ i = 6 ∨ i = 7 ∨ i = 8 := by omega
  rcases h6 with h | h | h | h
  · exact h
  · exact absurd (h4 6 (by omega) (by decide)) (by decide)
  · exact absurd (h4 7 (by omega) (by decide)) (by decide)
  · exact absurd (h4 8 (by omega) (by decide)) (by decide)
end Pu
end Go.Proofs.Ytoknfhjclpdihaa
