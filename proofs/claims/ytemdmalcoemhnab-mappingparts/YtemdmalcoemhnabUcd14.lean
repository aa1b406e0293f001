import Derived.Test.YtemdmalcoemhnabUcd13
namespace Go.Proofs.Ytemdmalcoemhnab.Uc
open Go.RowKit

def lineOk (x : Ln) : Bool := decide (0 ≤ x.1 ∧ x.1 ≤ 1114111 ∧ 0 ≤ x.2.1 ∧ x.2.1 ≤ 1114111)
def rowOk (x : SRow Tr) : Bool := decide (0 ≤ x.f ∧ x.f ≤ 1114111 ∧ 0 ≤ x.t ∧ x.t ≤ 1114111)
set_option maxRecDepth 1000000 in
theorem all_ok : allT.all lineOk = true := by kernel_rfl
set_option maxRecDepth 1000000 in
theorem asg_ok : (asgP allT).all rowOk = true := by kernel_rfl
set_option maxRecDepth 1000000 in
theorem asg_len : Nat.ble (asgP allT).length 2000 = true := by kernel_rfl

theorem asg_le2 : (asgP allT).length ≤ 2000 := by have h := Nat.le_of_ble_eq_true asg_len; exact h
theorem book_le : bookL.length ≤ 4096 := by have h := Nat.le_of_ble_eq_true book_len; exact h
theorem all_bd : ∀ x ∈ allT, 0 ≤ x.1 ∧ x.1 ≤ 1114111 ∧ 0 ≤ x.2.1 ∧ x.2.1 ≤ 1114111 := fun x hx => of_decide_eq_true (List.all_eq_true.1 all_ok x hx)
theorem asg_bd : ∀ x ∈ asgP allT, 0 ≤ x.f ∧ x.f ≤ 1114111 ∧ 0 ≤ x.t ∧ x.t ≤ 1114111 := fun x hx => of_decide_eq_true (List.all_eq_true.1 asg_ok x hx)

set_option maxHeartbeats 1000000 in
theorem new_any (w : World) : Calls Try.prog 6 #[] w fun e w' => ∃ b p rv, e = .returned (.pointer (some ⟨b, 0, none⟩)) ∧ Below w.heap.size w w' ∧ Book w' b bookL p rv := by
  have hok := Ok.start w
  have HL := hid (lines_any w)
  have HA0 := hid (fun (w : World) (g cap : Nat) (h : LIn w g allT) => asg_any (cap := cap) h (Nat.le_trans asg_le2 (by decide)) (by have := all_len.2; omega) all_bd)
  have HF0 := hid (fun (w : World) (v : Value) (h : VIn w v (asgP allT)) => fill_any h asg_le2 asg_bd)
  have HK := hid (And.intro book_check book_le)
  have h0 := hid all_len.1
  unfold bookL at HK ⊢
  generalize fillP 0 (asgP allT) = L at *
  generalize asgP allT = A at *
  generalize allT = T at *
  go_enter Try.func6, Try.ntmps6
  go_wp2_with fail
  refine HL.out.mono ?_
  rintro e w1 ⟨v1, rfl, ho1, hb1⟩
  obtain ⟨g1, cap1, rfl, hin⟩ := lin_of_own ho1 h0.out
  replace hok := hok.step hb1
  have HA := hid (HA0.out _ _ cap1 hin)
  clear HL hin ho1 hb1
  go_wp2_with fail
  refine HA.out.mono ?_
  rintro e w2 ⟨v2, rfl, hW2⟩
  replace hok := hok.step hW2.bel
  have HF := hid (HF0.out _ _ (vin_of_own hW2.own))
  clear HA hW2
  go_wp2_with fail
  refine HF.out.mono ?_
  rintro e w3 ⟨v3, rfl, ho3, hb3⟩
  replace hok := hok.step hb3
  obtain ⟨ao3, cap3, rfl⟩ := own_slice ho3
  have HV : Hid (VIn w3 (.slice ao3 L.length cap3) L) := vin_of_own ho3
  have HB := hid (build_any (l := L) HV.out (by unfold maxLen; have := HK.out.2; omega) zTr)
  simp only [trv, zTr] at HB
  clear HF ho3 hb3 HA0 HF0
  go_wp2_with fail
  refine HB.out.mono ?_
  rintro e w4 ⟨hb4, hh⟩
  rcases hh with ⟨hn, _⟩ | ⟨_, p, _, rfl, ht⟩
  · exact absurd HK.out.1 hn
  have HT := hid ht
  have HV4 := hid (HV.out.step hb4)
  replace hok := hok.step hb4
  clear hb4 ht HB HV HK
  go_wp2_with fail
  go_ret
  refine ⟨_, p, .slice ao3 L.length cap3, rfl, hok.alloc.1, heap_alloc_new _ _, HT.out.step ((Below.refl _ _).alloc (Nat.le_refl _) _), HV4.out.step ((Below.refl _ _).alloc (Nat.le_refl _) _)⟩
end Go.Proofs.Ytemdmalcoemhnab.Uc
