import Derived.Test.YteimhepmcjdbpaaGreatDoorIp13
import Derived.BigQuiet
namespace Go.Proofs.YteimhepmcjdbpaaGreatDoor
open Go.RowKit
namespace Ip

/-- A number below 1000 as it is written: no noughts ahead. -/
def dcD (n : Nat) : UInt8 := UInt8.ofNat (48 + n)
def dcT (n : Nat) : List UInt8 := if n < 10 then [dcD n] else if n < 100 then [dcD (n / 10), dcD (n % 10)] else [dcD (n / 100), dcD (n / 10 % 10), dcD (n % 10)]
theorem dcT_step (n : Nat) (h : 10 ≤ n) (h2 : n ≤ 999) : dcT n = dcT (n / 10) ++ [dcD (n % 10)] := by
  unfold dcT
  rw [if_neg (by omega)]
  by_cases h3 : n < 100
  · rw [if_pos h3, if_pos (by omega)]; rfl
  · rw [if_neg h3, if_neg (by omega : ¬ n / 10 < 10), if_pos (by omega), Nat.div_div_eq_div_mul]; rfl
theorem dcT_len (n : Nat) : (dcT n).length ≤ 3 := by
  unfold dcT; repeat' split
  all_goals simp

theorem dig_all : ∀ k : Fin 10, ((⟨#[48, 49, 50, 51, 52, 53, 54, 55, 56, 57]⟩ : ByteArray).extract k.1 (k.1 + 1)).data.toList = [dcD k.1] := by decide +kernel
theorem dig_is (k : Nat) (h : k < 10) : (⟨#[48, 49, 50, 51, 52, 53, 54, 55, 56, 57]⟩ : ByteArray).extract k (k + 1) = ⟨#[dcD k]⟩ := bytes_ext (dig_all ⟨k, h⟩)
theorem hxs_all : ∀ k : Fin 16, ((⟨#[48, 49, 50, 51, 52, 53, 54, 55, 56, 57, 97, 98, 99, 100, 101, 102]⟩ : ByteArray).extract k.1 (k.1 + 1)).data.toList = [hxD k.1] := by decide +kernel
theorem hxs_is (k : Nat) (h : k < 16) : (⟨#[48, 49, 50, 51, 52, 53, 54, 55, 56, 57, 97, 98, 99, 100, 101, 102]⟩ : ByteArray).extract k (k + 1) = ⟨#[hxD k]⟩ := bytes_ext (hxs_all ⟨k, h⟩)
theorem app_one (l : List UInt8) (x : UInt8) : (⟨l.toArray⟩ : ByteArray) ++ ⟨#[x]⟩ = ⟨(l ++ [x]).toArray⟩ := bytes_ext (by simp [ByteArray.data_append])

theorem rdig_one (n : Nat) (w : World) (h : n < 10) :
    Calls Tryz.prog 17 #[.int .i64 n] w fun e w' => e = .returned (.string ⟨(dcT n).toArray⟩) ∧ ∃ m, w' = w.drewN m := by
  have HX := hid (dig_is n h)
  have HT : Hid (dcT n = [dcD n]) := if_pos h
  go_enter Tryz.func17, Tryz.ntmps17
  go_wp2_with fail
  go_ret
  exact ⟨ret_string (by rw [HT.out]; exact HX.out), 0, rfl⟩
theorem rdig_step (n : Nat) (w : World) (h : 10 ≤ n) (h2 : n ≤ 999)
    (HR : ∀ w, Calls Tryz.prog 17 #[.int .i64 ((n : Int) / 10)] w fun e w' => e = .returned (.string ⟨(dcT (n / 10)).toArray⟩) ∧ ∃ m, w' = w.drewN m) :
    Calls Tryz.prog 17 #[.int .i64 n] w fun e w' => e = .returned (.string ⟨(dcT n).toArray⟩) ∧ ∃ m, w' = w.drewN m := by
  have HX := hid (dig_is (n % 10) (by omega))
  have HT := hid (dcT_step n h h2)
  have HA := hid (app_one (dcT (n / 10)) (dcD (n % 10)))
  have hl : (⟨(dcT (n / 10)).toArray⟩ : ByteArray).size ≤ 3 := by
    show (dcT (n / 10)).toArray.size ≤ 3
    simpa using dcT_len (n / 10)
  have HR' := hid HR
  clear HR
  generalize (⟨(dcT (n / 10)).toArray⟩ : ByteArray) = r at *
  go_enter Tryz.func17, Tryz.ntmps17
  go_wp2_with fail
  go_quiet ((go_at_call 17; exact Calls.quiet_of (HR'.out _)))
  go_wp2_with fail
  go_ret
  exact ⟨ret_string (by rw [HT.out, ← HA.out, ← HX.out]), _, rfl⟩
theorem rdig_any (n : Nat) (w : World) (h : n ≤ 999) :
    Calls Tryz.prog 17 #[.int .i64 n] w fun e w' => e = .returned (.string ⟨(dcT n).toArray⟩) ∧ ∃ m, w' = w.drewN m := by
  by_cases h1 : n < 10
  · exact rdig_one n w h1
  · refine rdig_step n w (by omega) h (fun w => ?_)
    by_cases h2 : n < 100
    · exact rdig_one (n / 10) w (by omega)
    · exact rdig_step (n / 10) w (by omega) (by omega) (fun w => rdig_one (n / 10 / 10) w (by omega))

theorem hxT_len (n : Nat) : (hxT n).length ≤ 4 := by
  unfold hxT; repeat' split
  all_goals simp
theorem rhex_one (n : Nat) (w : World) (h : n < 16) :
    Calls Tryz.prog 56 #[.int .i64 n] w fun e w' => e = .returned (.string ⟨(hxT n).toArray⟩) ∧ ∃ m, w' = w.drewN m := by
  have HX := hid (hxs_is n h)
  have HT : Hid (hxT n = [hxD n]) := if_pos h
  go_enter Tryz.func56, Tryz.ntmps56
  go_wp2_with fail
  go_ret
  exact ⟨ret_string (by rw [HT.out]; exact HX.out), 0, rfl⟩
theorem rhex_step (n : Nat) (w : World) (h : 16 ≤ n) (h2 : n ≤ 65535)
    (HR : ∀ w, Calls Tryz.prog 56 #[.int .i64 ((n : Int) / 16)] w fun e w' => e = .returned (.string ⟨(hxT (n / 16)).toArray⟩) ∧ ∃ m, w' = w.drewN m) :
    Calls Tryz.prog 56 #[.int .i64 n] w fun e w' => e = .returned (.string ⟨(hxT n).toArray⟩) ∧ ∃ m, w' = w.drewN m := by
  have HX := hid (hxs_is (n % 16) (by omega))
  have HT := hid (hxT_step n h h2)
  have HA := hid (app_one (hxT (n / 16)) (hxD (n % 16)))
  have hl : (⟨(hxT (n / 16)).toArray⟩ : ByteArray).size ≤ 4 := by
    show (hxT (n / 16)).toArray.size ≤ 4
    simpa using hxT_len (n / 16)
  have HR' := hid HR
  clear HR
  generalize (⟨(hxT (n / 16)).toArray⟩ : ByteArray) = r at *
  go_enter Tryz.func56, Tryz.ntmps56
  go_wp2_with fail
  go_quiet ((go_at_call 56; exact Calls.quiet_of (HR'.out _)))
  go_wp2_with fail
  go_ret
  exact ⟨ret_string (by rw [HT.out, ← HA.out, ← HX.out]), _, rfl⟩
theorem rhex_any (n : Nat) (w : World) (h : n ≤ 65535) :
    Calls Tryz.prog 56 #[.int .i64 n] w fun e w' => e = .returned (.string ⟨(hxT n).toArray⟩) ∧ ∃ m, w' = w.drewN m := by
  by_cases h1 : n < 16
  · exact rhex_one n w h1
  · refine rhex_step n w (by omega) h (fun w => ?_)
    by_cases h2 : n / 16 < 16
    · exact rhex_one (n / 16) w h2
    · refine rhex_step (n / 16) w (by omega) (by omega) (fun w => ?_)
      by_cases h3 : n / 16 / 16 < 16
      · exact rhex_one (n / 16 / 16) w h3
      · exact rhex_step (n / 16 / 16) w (by omega) (by omega) (fun w => rhex_one (n / 16 / 16 / 16) w (by omega))

set_option maxHeartbeats 2000000 in
theorem rword_any (s : ByteArray) (w : World) (hs : s.size ≤ maxLen) :
    Calls Tryz.prog 45 #[.string s] w fun e w' => e = .returned (.int .i64 (woL s.data.toList)) ∧ w' = w := by
  unfold maxLen at hs
  have bad : ¬ (s.data.toList ≠ [] ∧ s.data.toList.length ≤ 4 ∧ s.data.toList.all hxB = true) → Hid (woL s.data.toList = -1) := fun h => if_neg h
  by_cases h0 : 0 < s.size
  · by_cases h4 : s.size ≤ 4
    · have HB := hid bad
      clear bad
      have h0' : ¬ s.size < 1 := by omega
      have h4' : ¬ 4 < s.size := by omega
      go_enter Tryz.func45, Tryz.ntmps45
      go_wp2
      go_loop [3, 4] (fun n i => ∃ k : Nat, k ≤ s.size ∧ n = .int .i64 (hexI (s.data.toList.take k)) ∧ i = .int .i64 k ∧ Hid ((s.data.toList.take k).all hxB = true)) (fun _ i => s.size - (intOf i).toNat)
      case atStart => exact ⟨0, Nat.zero_le _, rfl, rfl, rfl⟩
      case round =>
        obtain ⟨k, hk, rfl, rfl, hA⟩ := hrel
        by_cases hlt : k < s.size
        · have hn := hexI_bd (s.data.toList.take k) (by rw [List.length_take, len_size]; omega) hA.out
          have hn3 : hexI (s.data.toList.take k) ≤ 4095 := hn.2.2 (by rw [List.length_take, len_size]; omega)
          have HN : Hid (hexI (s.data.toList.take (k + 1)) = 16 * hexI (s.data.toList.take k) + valR s[k].toNat) := by
            show _ = _; rw [take_snoc s k hlt, hexI_snoc]; omega
          by_cases hv : 0 ≤ valR (s[k].toNat : Int)
          · have HA2 : Hid ((s.data.toList.take (k + 1)).all hxB = true) := by
              show _ = _; rw [take_snoc s k hlt, List.all_append, hA.out]; simp [hxB, hv]
            have hb := valR_16 (s[k].toNat : Int)
            have hn0 := hn.1
            have hv' : ¬ valR (s[k].toNat : Int) < 0 := by omega
            clear hn
            generalize hexI (s.data.toList.take k) = n at *
            go_wp2_with (go_at_call 28; refine (rval_any _ _).mono ?_; rintro e w' ⟨rfl, rfl⟩)
            go_round
            case rel => exact ⟨k + 1, by omega, by rw [HN.out], by go_num, HA2⟩
            case measure => simp [intOf]; omega
          · have hv' : valR (s[k].toNat : Int) < 0 := by omega
            have H := HB.out (fun h => hv (of_decide_eq_true (all_at h.2.2 k hlt)))
            clear hv hn
            generalize hexI (s.data.toList.take k) = n at *
            go_wp2_with (go_at_call 28; refine (rval_any _ _).mono ?_; rintro e w' ⟨rfl, rfl⟩)
            go_ret
            exact ⟨ret_int H.out.symm, rfl⟩
        · have e : s.data.toList.take k = s.data.toList := List.take_of_length_le (by rw [len_size]; omega)
          rw [e] at hA ⊢
          have hne : s.data.toList ≠ [] := by intro e; rw [← len_size, e] at h0; exact absurd h0 (Nat.lt_irrefl _)
          have H : Hid (woL s.data.toList = hexI s.data.toList) := if_pos ⟨hne, by rw [len_size]; exact h4, hA.out⟩
          clear hne e
          generalize hexI s.data.toList = n at *
          go_wp2_with fail
          go_ret
          exact ⟨ret_int H.out.symm, rfl⟩
    · have H := bad (fun h => h4 (by rw [← len_size]; exact h.2.1))
      have h0' : ¬ s.size < 1 := by omega
      have h4' : 4 < s.size := by omega
      clear bad
      go_enter Tryz.func45, Tryz.ntmps45
      go_wp2
      go_ret
      exact ⟨ret_int H.out.symm, rfl⟩
  · have e : s.data.toList = [] := List.eq_nil_of_length_eq_zero (by rw [len_size]; omega)
    have H := bad (fun h => h.1 e)
    have h0' : s.size < 1 := by omega
    clear bad e
    go_enter Tryz.func45, Tryz.ntmps45
    go_wp2
    go_ret
    exact ⟨ret_int H.out.symm, rfl⟩
end Ip
end Go.Proofs.YteimhepmcjdbpaaGreatDoor
