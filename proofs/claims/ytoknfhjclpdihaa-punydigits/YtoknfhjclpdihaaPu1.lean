import Derived.Test.YtoknfhjclpdihaaBase
import Derived.WalkKit
import Derived.BigCall
import Derived.BigQuiet
import Derived.Deep.LoopGhost
namespace Go.Proofs.Ytoknfhjclpdihaa
namespace Pu
open Go.RowKit

theorem hid {p : Prop} (h : p) : Hid p := h
theorem ret_pair {a b a' : Value} (h : a = a') : Ending.returned (.tuple #[a, b]) = .returned (.tuple #[a', b]) := by rw [h]

/-- The digit of a value. -/
def dgP (v : Int) : Int := if v < 26 then 97 + v else 22 + v
set_option maxHeartbeats 1000000 in
theorem digit_yes (v : Int) (w : World) (h0 : 0 ≤ v) (h1 : v < 36) :
    Calls Try.prog 14 #[.int .i64 v] w fun e w' => e = .returned (.tuple #[.int .u8 (dgP v), .bool true]) ∧ w' = w := by
  by_cases h : v < 26
  · have HE : Hid (dgP v = 97 + v) := if_pos h
    have q1 : IntKind.u8.wrap v = v := by rw [IntKind.wrap_u8]; omega
    have q2 : IntKind.u8.wrap (97 + v) = 97 + v := by rw [IntKind.wrap_u8]; omega
    go_enter Try.func14, Try.ntmps14
    go_wp2_with fail
    go_ret2
    exact ⟨by rw [HE.out]; rfl, rfl⟩
  · have HE : Hid (dgP v = 22 + v) := if_neg h
    have q0 : 26 ≤ v := by omega
    have q1 : IntKind.u8.wrap (v - 26) = v - 26 := by rw [IntKind.wrap_u8]; omega
    have q2 : IntKind.u8.wrap (48 + (v - 26)) = 22 + v := by rw [IntKind.wrap_u8]; omega
    go_enter Try.func14, Try.ntmps14
    go_wp2_with fail
    go_ret2
    exact ⟨by rw [HE.out]; rfl, rfl⟩
set_option maxHeartbeats 1000000 in
theorem digit_no (v : Int) (w : World) (h : v < 0 ∨ 36 ≤ v) :
    Calls Try.prog 14 #[.int .i64 v] w fun e w' => e = .returned (.tuple #[.int .u8 0, .bool false]) ∧ w' = w := by
  rcases h with h | h
  · have q0 : ¬ 0 ≤ v := by omega
    have q1 : ¬ 26 ≤ v := by omega
    go_enter Try.func14, Try.ntmps14
    go_wp2_with fail
    go_ret2
    exact ⟨rfl, rfl⟩
  · have q0 : 0 ≤ v := by omega
    have q1 : 26 ≤ v := by omega
    have q2 : ¬ v < 26 := by omega
    have q3 : ¬ v < 36 := by omega
    go_enter Try.func14, Try.ntmps14
    go_wp2_with fail
    go_ret2
    exact ⟨rfl, rfl⟩

/-- A digit's value; -1. -/
def vlP (b : Int) : Int := if 97 ≤ b ∧ b ≤ 122 then b - 97 else if 65 ≤ b ∧ b ≤ 90 then b - 65 else if 48 ≤ b ∧ b ≤ 57 then b - 22 else -1
def vlV (b : Int) : Int := if vlP b < 0 then 0 else vlP b
def vlB (b : Int) : Bool := decide (0 ≤ vlP b)
theorem ret_vl {a b : Int} {p : Bool} (h1 : a = vlV b) (h2 : p = vlB b) : Ending.returned (.tuple #[.int .i64 a, .bool p]) = .returned (.tuple #[.int .i64 (vlV b), .bool (vlB b)]) := by rw [h1, h2]
set_option maxHeartbeats 2000000 in
theorem value_any (b : Int) (w : World) (h0 : 0 ≤ b) (h1 : b < 256) :
    Calls Try.prog 16 #[.int .u8 b] w fun e w' => e = .returned (.tuple #[.int .i64 (vlV b), .bool (vlB b)]) ∧ w' = w := by
  by_cases a1 : 97 ≤ b ∧ b ≤ 122
  · have HE : Hid (vlP b = b - 97) := if_pos a1
    obtain ⟨a1, a2⟩ := a1
    have q1 : IntKind.u8.wrap (b - 97) = b - 97 := by rw [IntKind.wrap_u8]; omega
    have q2 : IntKind.i64.wrap (b - 97) = b - 97 := by rw [IntKind.wrap_i64]; omega
    go_enter Try.func16, Try.ntmps16
    go_wp2_with fail
    go_ret2
    exact ⟨ret_vl (by unfold vlV; rw [HE.out, if_neg (by omega)]) (by unfold vlB; rw [HE.out, decide_eq_true (by omega)]), rfl⟩
  by_cases a2 : 65 ≤ b ∧ b ≤ 90
  · have HE : Hid (vlP b = b - 65) := by show _ = _; unfold vlP; rw [if_neg a1, if_pos a2]
    have q0 : ¬ 97 ≤ b := by omega
    obtain ⟨a2, a3⟩ := a2
    have q1 : IntKind.u8.wrap (b - 65) = b - 65 := by rw [IntKind.wrap_u8]; omega
    have q2 : IntKind.i64.wrap (b - 65) = b - 65 := by rw [IntKind.wrap_i64]; omega
    clear a1
    go_enter Try.func16, Try.ntmps16
    go_wp2_with fail
    go_ret2
    exact ⟨ret_vl (by unfold vlV; rw [HE.out, if_neg (by omega)]) (by unfold vlB; rw [HE.out, decide_eq_true (by omega)]), rfl⟩
  by_cases a3 : 48 ≤ b ∧ b ≤ 57
  · have HE : Hid (vlP b = b - 22) := by show _ = _; unfold vlP; rw [if_neg a1, if_neg a2, if_pos a3]
    have q0 : ¬ 97 ≤ b := by omega
    have q3 : ¬ 65 ≤ b := by omega
    obtain ⟨a3, a4⟩ := a3
    have q1 : IntKind.u8.wrap (b - 48) = b - 48 := by rw [IntKind.wrap_u8]; omega
    have q2 : IntKind.i64.wrap (b - 48) = b - 48 := by rw [IntKind.wrap_i64]; omega
    clear a1 a2
    go_enter Try.func16, Try.ntmps16
    go_wp2_with fail
    go_ret2
    exact ⟨ret_vl (by unfold vlV; rw [HE.out, if_neg (by omega)]; omega) (by unfold vlB; rw [HE.out, decide_eq_true (by omega)]), rfl⟩
  · have HE : Hid (vlP b = -1) := by show _ = _; unfold vlP; rw [if_neg a1, if_neg a2, if_neg a3]
    have HR : Hid (vlV b = 0 ∧ vlB b = false) := ⟨by unfold vlV; rw [HE.out]; rfl, by unfold vlB; rw [HE.out]; rfl⟩
    have c1 : (97 ≤ b ∧ ¬ b ≤ 122) ∨ ¬ 97 ≤ b := by omega
    have c2 : (65 ≤ b ∧ ¬ b ≤ 90) ∨ ¬ 65 ≤ b := by omega
    have c3 : (48 ≤ b ∧ ¬ b ≤ 57) ∨ ¬ 48 ≤ b := by omega
    clear a1 a2 a3
    rcases c1 with ⟨q1, q2⟩ | q1 <;> rcases c2 with ⟨q3, q4⟩ | q3 <;> rcases c3 with ⟨q5, q6⟩ | q5
    all_goals first
      | (exfalso; omega)
      | (go_enter Try.func16, Try.ntmps16
         go_wp2_with fail
         go_ret2
         exact ⟨by rw [HR.out.1, HR.out.2]; rfl, rfl⟩)

/-- A threshold. -/
def thP (k b : Int) : Int := if k ≤ b then 1 else if 26 ≤ k - b then 26 else k - b
set_option maxHeartbeats 2000000 in
theorem thr_any (k b : Int) (w : World) (hk : -1099511627776 ≤ k ∧ k ≤ 1099511627776) (hb : -1099511627776 ≤ b ∧ b ≤ 1099511627776) :
    Calls Try.prog 17 #[.int .i64 k, .int .i64 b] w fun e w' => e = .returned (.int .i64 (thP k b)) ∧ w' = w := by
  by_cases h : k ≤ b
  · have HE : Hid (thP k b = 1) := if_pos h
    clear hk hb
    go_enter Try.func17, Try.ntmps17
    go_wp2_with fail
    go_ret
    exact ⟨ret_int HE.out.symm, rfl⟩
  · have q1 : IntKind.u64.wrap (IntKind.u64.wrap k - IntKind.u64.wrap b) = k - b := by simp only [IntKind.wrap_u64]; omega
    by_cases h2 : 26 < k - b
    · have HE : Hid (thP k b = 26) := by show _ = _; unfold thP; rw [if_neg h, if_pos (by omega)]
      go_enter Try.func17, Try.ntmps17
      go_wp2_with fail
      go_ret
      exact ⟨ret_int HE.out.symm, rfl⟩
    · have HE : Hid (thP k b = k - b) := by show _ = _; unfold thP; rw [if_neg h]; split <;> omega
      have h3 : k - b ≤ 26 := by omega
      go_enter Try.func17, Try.ntmps17
      go_wp2_with fail
      go_ret
      exact ⟨ret_int HE.out.symm, rfl⟩
set_option maxHeartbeats 2000000 in
theorem rthr_any (k b : Int) (w : World) (hk : -1099511627776 ≤ k ∧ k ≤ 1099511627776) (hb : -1099511627776 ≤ b ∧ b ≤ 1099511627776) :
    Calls Try.prog 18 #[.int .i64 k, .int .i64 b] w fun e w' => e = .returned (.int .i64 (thP k b)) ∧ w' = w := by
  have q1 : IntKind.i64.wrap (k - b) = k - b := by rw [IntKind.wrap_i64]; omega
  by_cases h : k ≤ b
  · have HE : Hid (thP k b = 1) := if_pos h
    have q2 : k - b < 1 := by omega
    go_enter Try.func18, Try.ntmps18
    go_wp2_with fail
    go_ret
    exact ⟨ret_int HE.out.symm, rfl⟩
  · have q2 : ¬ k - b < 1 := by omega
    by_cases h2 : 26 ≤ k - b
    · have HE : Hid (thP k b = 26) := by show _ = _; unfold thP; rw [if_neg h, if_pos h2]
      by_cases h3 : 26 < k - b
      · go_enter Try.func18, Try.ntmps18
        go_wp2_with fail
        go_ret
        exact ⟨ret_int HE.out.symm, rfl⟩
      · have e : k - b = 26 := by omega
        go_enter Try.func18, Try.ntmps18
        go_wp2_with fail
        go_ret
        exact ⟨ret_int (by rw [HE.out]), rfl⟩
    · have HE : Hid (thP k b = k - b) := by show _ = _; unfold thP; rw [if_neg h, if_neg h2]
      have q3 : ¬ 26 < k - b := by omega
      go_enter Try.func18, Try.ntmps18
      go_wp2_with fail
      go_ret
      exact ⟨ret_int HE.out.symm, rfl⟩
end Pu
end Go.Proofs.Ytoknfhjclpdihaa
