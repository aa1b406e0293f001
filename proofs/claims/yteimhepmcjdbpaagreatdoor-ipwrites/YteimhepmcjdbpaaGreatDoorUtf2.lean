import Derived.Test.YteimhepmcjdbpaaGreatDoorUtf1
import Derived.Lib.OthersKept
import Derived.BigCall
namespace Go.Proofs.YteimhepmcjdbpaaGreatDoor
open Go.RowKit

theorem ofNat_bt (l : List UInt8) (j : Nat) : UInt8.ofNat (bt l j) = l.getD j 0 := by unfold bt; exact UInt8.ofNat_toNat

theorem take_bt (l : List UInt8) : ∀ n, n ≤ l.length → l.take n = (List.range n).map fun j => l.getD j 0 := by
  intro n hn
  apply List.ext_getElem
  · simp; omega
  · intro i h1 h2
    simp at h1
    have h3 : i < l.length := by omega
    simp [List.getD_eq_getElem?_getD, List.getElem?_eq_getElem h3]

theorem sign_ok (l : List UInt8) (h : signB l = true) : okL l = true := by
  unfold signB at h
  have e : l.take 3 = [239, 191, 189] := by simpa using h
  have hl : 3 ≤ l.length := by have := congrArg List.length e; simp at this; omega
  rw [take_bt l 3 hl] at e
  simp only [List.range, List.range.loop, List.map_cons, List.map_nil, List.cons.injEq, and_true] at e
  obtain ⟨e0, e1, e2⟩ := e
  have b0 : bt l 0 = 239 := by unfold bt; rw [e0]; rfl
  have b1 : bt l 1 = 191 := by unfold bt; rw [e1]; rfl
  have b2 : bt l 2 = 189 := by unfold bt; rw [e2]; rfl
  rw [okL_iff]
  refine ⟨by intro e; subst e; simp at hl, ?_⟩
  have r : rowB (bt l 0) = (3, 128, 191) := by rw [b0]; rfl
  rw [r]
  refine (fit_eq l 3 (by omega) (fun j a b => ?_) ?_).symm
  · have c : j = 1 ∨ j = 2 := by omega
    rcases c with rfl | rfl
    · unfold goOn; rw [r, b1]; simp; omega
    · unfold goOn; rw [r, b2]; simp; omega
  · unfold goOn; rw [r]; simp

set_option maxHeartbeats 2000000 in
theorem ok_facts (l : List UInt8) (h : okL l = true) : scB (valL l) = true ∧ (Utf8.encode (valL l)).data.toList = l.take (fit l) ∧ fit l ≤ l.length ∧ (valL l = 65533 → signB l = true) := by
  obtain ⟨hne, hf⟩ := (okL_iff l).1 h
  obtain ⟨f1, f4, fg, fn⟩ := fit_spec l
  have hlen : 1 ≤ l.length := by cases l with | nil => exact absurd rfl hne | cons a b => simp
  have hb1 := bt_lt l 1
  have hb2 := bt_lt l 2
  have hb3 := bt_lt l 3
  have g1 : goOn l 1 → 1 < l.length ∧ (rowB (bt l 0)).2.1 ≤ bt l 1 ∧ bt l 1 ≤ (rowB (bt l 0)).2.2 := fun g => by unfold goOn at g; simpa using g.2
  have g2 : goOn l 2 → 2 < l.length ∧ 128 ≤ bt l 2 ∧ bt l 2 ≤ 191 := fun g => by unfold goOn at g; simpa using g.2
  have g3 : goOn l 3 → 3 < l.length ∧ 128 ≤ bt l 3 ∧ bt l 3 ≤ 191 := fun g => by unfold goOn at g; simpa using g.2
  have enc : ∀ c : Nat, scB c = true → (Utf8.encode c).data.toList = if c < 128 then [UInt8.ofNat c] else if c < 2048 then [UInt8.ofNat (192 + c / 64), UInt8.ofNat (128 + c % 64)] else if c < 65536 then [UInt8.ofNat (224 + c / 4096), UInt8.ofNat (128 + c / 64 % 64), UInt8.ofNat (128 + c % 64)] else [UInt8.ofNat (240 + c / 262144), UInt8.ofNat (128 + c / 4096 % 64), UInt8.ofNat (128 + c / 64 % 64), UInt8.ofNat (128 + c % 64)] := by
    intro c hc
    have hv : Utf8.valid (c : Int) = true := by
      unfold scB at hc; unfold Utf8.valid
      have := of_decide_eq_true hc
      simp; omega
    unfold Utf8.encode
    simp only [hv, if_true, Int.toNat_natCast]
    repeat' split
    all_goals first | rfl | omega
  have fin : ∀ (sz v : Nat), fit l = sz → valL l = v → sz ≤ l.length → scB v = true → (Utf8.encode v).data.toList = (List.range sz).map (fun j => UInt8.ofNat (bt l j)) → (v = 65533 → bt l 0 = 239 ∧ bt l 1 = 191 ∧ bt l 2 = 189 ∧ 3 ≤ l.length) →
      scB (valL l) = true ∧ (Utf8.encode (valL l)).data.toList = l.take (fit l) ∧ fit l ≤ l.length ∧ (valL l = 65533 → signB l = true) := by
    intro sz v e1 e2 e3 e4 e5 e6
    rw [e1, e2]
    refine ⟨e4, ?_, e3, fun hv => ?_⟩
    · rw [e5, take_bt l sz e3]; exact List.map_congr_left fun j _ => ofNat_bt l j
    · obtain ⟨a, b, c, d⟩ := e6 hv
      unfold signB
      rw [take_bt l 3 d]
      simp only [List.range, List.range.loop, List.map_cons, List.map_nil]
      rw [← ofNat_bt, ← ofNat_bt, ← ofNat_bt, a, b, c]; rfl
  have hsc : ∀ c : Nat, (c < 55296 ∨ (57343 < c ∧ c ≤ 1114111)) → scB c = true := fun c hc => by unfold scB; rw [decide_eq_true_iff]; omega
  rcases rowB_cases (bt l 0) (bt_lt l 0) with ⟨c, e⟩ | ⟨c, c', e⟩ | ⟨c, e⟩ | ⟨c, c', e⟩ | ⟨c, e⟩ | ⟨c, c', e⟩ | ⟨c, e⟩ | ⟨c, c', e⟩ | ⟨c, e⟩ | ⟨c, e⟩
  all_goals
    rw [e] at hf g1
    simp only at hf g1
  · have hv : valL l = bt l 0 := by unfold valL; rw [e]; rfl
    have hs := hsc (bt l 0) (by omega)
    refine fin 1 _ hf.symm hv (by omega) hs ?_ (by omega)
    rw [enc _ hs, if_pos (by omega)]; rfl
  · have hv : valL l = (bt l 0 - 192) * 64 + (bt l 1 - 128) := by unfold valL; rw [e]; rfl
    have k1 := g1 (fg 1 (by omega) (by omega))
    have hs := hsc ((bt l 0 - 192) * 64 + (bt l 1 - 128)) (by omega)
    refine fin 2 _ hf.symm hv (by omega) hs ?_ (by omega)
    rw [enc _ hs, if_neg (by omega), if_pos (by omega)]
    simp only [List.range, List.range.loop, List.map_cons, List.map_nil]
    rw [show 192 + ((bt l 0 - 192) * 64 + (bt l 1 - 128)) / 64 = bt l 0 by omega, show 128 + ((bt l 0 - 192) * 64 + (bt l 1 - 128)) % 64 = bt l 1 by omega]
  iterate 4
    · have hv : valL l = ((bt l 0 - 224) * 64 + (bt l 1 - 128)) * 64 + (bt l 2 - 128) := by unfold valL; rw [e]; rfl
      have k1 := g1 (fg 1 (by omega) (by omega))
      have k2 := g2 (fg 2 (by omega) (by omega))
      have hs := hsc (((bt l 0 - 224) * 64 + (bt l 1 - 128)) * 64 + (bt l 2 - 128)) (by omega)
      refine fin 3 _ hf.symm hv (by omega) hs ?_ (by omega)
      rw [enc _ hs, if_neg (by omega), if_neg (by omega), if_pos (by omega)]
      simp only [List.range, List.range.loop, List.map_cons, List.map_nil]
      rw [show 224 + (((bt l 0 - 224) * 64 + (bt l 1 - 128)) * 64 + (bt l 2 - 128)) / 4096 = bt l 0 by omega, show 128 + (((bt l 0 - 224) * 64 + (bt l 1 - 128)) * 64 + (bt l 2 - 128)) / 64 % 64 = bt l 1 by omega, show 128 + (((bt l 0 - 224) * 64 + (bt l 1 - 128)) * 64 + (bt l 2 - 128)) % 64 = bt l 2 by omega]
  iterate 3
    · have hv : valL l = (((bt l 0 - 240) * 64 + (bt l 1 - 128)) * 64 + (bt l 2 - 128)) * 64 + (bt l 3 - 128) := by unfold valL; rw [e]; rfl
      have k1 := g1 (fg 1 (by omega) (by omega))
      have k2 := g2 (fg 2 (by omega) (by omega))
      have k3 := g3 (fg 3 (by omega) (by omega))
      have hs := hsc ((((bt l 0 - 240) * 64 + (bt l 1 - 128)) * 64 + (bt l 2 - 128)) * 64 + (bt l 3 - 128)) (by omega)
      refine fin 4 _ hf.symm hv (by omega) hs ?_ (by omega)
      rw [enc _ hs, if_neg (by omega), if_neg (by omega), if_neg (by omega)]
      simp only [List.range, List.range.loop, List.map_cons, List.map_nil]
      rw [show 240 + ((((bt l 0 - 240) * 64 + (bt l 1 - 128)) * 64 + (bt l 2 - 128)) * 64 + (bt l 3 - 128)) / 262144 = bt l 0 by omega, show 128 + ((((bt l 0 - 240) * 64 + (bt l 1 - 128)) * 64 + (bt l 2 - 128)) * 64 + (bt l 3 - 128)) / 4096 % 64 = bt l 1 by omega, show 128 + ((((bt l 0 - 240) * 64 + (bt l 1 - 128)) * 64 + (bt l 2 - 128)) * 64 + (bt l 3 - 128)) / 64 % 64 = bt l 2 by omega, show 128 + ((((bt l 0 - 240) * 64 + (bt l 1 - 128)) * 64 + (bt l 2 - 128)) * 64 + (bt l 3 - 128)) % 64 = bt l 3 by omega]
  · omega
end Go.Proofs.YteimhepmcjdbpaaGreatDoor
