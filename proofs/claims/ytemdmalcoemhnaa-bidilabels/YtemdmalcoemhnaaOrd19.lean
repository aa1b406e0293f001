import Derived.Test.YtemdmalcoemhnaaOrd18
namespace Go.Proofs.Ytemdmalcoemhnaa
namespace Od
open Go.RowKit

theorem awake_srt : srt clsP [97, 769, 803] = [97, 803, 769] := by
  have h1 : clsP 97 = 0 := by kernel_rfl
  have h2 : clsP 769 = 230 := by kernel_rfl
  have h3 : clsP 803 = 220 := by kernel_rfl
  simp only [srt, ins]
  rw [h2, h3]
  simp [ins, h1, h3]

theorem sl3 (k : IntKind) (w : World) (t : TypeId) (x y z : Int) (N : Nat) (hN : N = w.heap.size) : Sn k (w.alloc (.cells #[.int k x, .int k y, .int k z] t)) (.slice (some ⟨N, 0, none⟩) 3 3) [x, y, z] := by
  subst hN
  have hb := heap_new w (.cells #[.int k x, .int k y, .int k z] t)
  refine ⟨_, 3, rfl, Nat.le_refl _, fun e => (by cases e), fun j hj => ⟨w.heap.size, 0, rfl, by simp, ?_⟩⟩
  simp only [World.cell?, hb]
  match j, hj with
  | 0, _ => rfl
  | 1, _ => rfl
  | 2, _ => rfl


/-- A law's slice of runes. -/
theorem row_sl {w : World} {a : Option Addr} {len cap : Nat} {zs : List Int} (h : (a = none ∧ len = 0 ∧ cap = 0 ∧ zs = []) ∨ ∃ x, a = some x ∧ len ≤ cap ∧ cap ≤ maxLen ∧ zs.length = cap ∧ (∀ i, i < zs.length → w.cell? (x.add i) = some (.int .i32 (zs.getD i 0))) ∧ ∀ n ∈ zs, (Lit.int .i32 n).wf = true) : (zs.take len).length = len ∧ SlP .i32 w a cap (zs.take len) ∧ ∀ y ∈ zs.take len, -2147483648 ≤ y ∧ y ≤ 2147483647 := by
  rcases h with ⟨rfl, rfl, rfl, rfl⟩ | ⟨x, rfl, hl, hm, hz, hcell, hwz⟩
  · exact ⟨rfl, ⟨Nat.le_refl _, fun _ => ⟨rfl, rfl⟩, fun k hk => by simp at hk⟩, fun y hy => by simp at hy⟩
  · have hlen : (zs.take len).length = len := by rw [List.length_take]; omega
    refine ⟨hlen, ⟨by omega, fun e => (by cases e), fun k hk => ?_⟩, fun y hy => by have h := hwz y (List.mem_of_mem_take hy); simp only [Lit.wf, Bool.and_eq_true, decide_eq_true_eq] at h; exact h⟩
    rw [hlen] at hk
    obtain ⟨b, off, spot⟩ := x
    have hc := hcell k (by omega)
    have hspot : spot = none := by simpa [Addr.add] using World.cell?_spot (hcell 0 (by omega))
    subst hspot
    have hadd : (⟨b, off, none⟩ : Addr).add k = ⟨b, off + k, none⟩ := by unfold Addr.add; split <;> simp_all
    rw [hadd] at hc
    refine ⟨b, off, rfl, World.block_lt_of_cell? w _ hc, ?_⟩
    rw [hc, List.getElem_take]
    simp [List.getD_eq_getElem?_getD, List.getElem?_eq_getElem (show k < zs.length by omega)]
theorem bd_srt {zs : List Int} (h : ∀ y ∈ zs, -2147483648 ≤ y ∧ y ≤ 2147483647) : ∀ y ∈ srt clsP zs, -2147483648 ≤ y ∧ y ≤ 2147483647 := fun y hy => h y ((sw_srt clsP zs).perm.mem_iff.2 hy)
end Od
end Go.Proofs.Ytemdmalcoemhnaa
