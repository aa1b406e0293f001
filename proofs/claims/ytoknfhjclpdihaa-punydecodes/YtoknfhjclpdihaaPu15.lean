import Derived.Test.YtoknfhjclpdihaaPu14
namespace Go.Proofs.Ytoknfhjclpdihaa
namespace Pu
open Go.RowKit Od

set_option maxHeartbeats 4000000 in
theorem ada_t00 (x : Nat) (hx : x ≤ 4294967296) (y : Nat) (hy : 1 ≤ y) (hy2 : y ≤ 4294967296) (w : World) :
    Calls Try.prog 19 #[.int .i64 x, .int .i64 y, .bool true] w fun e w' => e = .returned (.int .i64 (adP x y true : Nat)) ∧ w' = w := by
  obtain ⟨d1, hd1⟩ : ∃ d1 : Nat, d1 = x / 700 + x / 700 / y := ⟨_, rfl⟩
  have HT : Hid (adP x y true = adN d1 0) := by show _ = _; rw [hd1]; unfold adP; simp
  have m2 : x / 700 / y ≤ x / 700 := Nat.div_le_self _ _
  have m3 : d1 ≤ 8589934592 := by omega
  have e1 : (x : Int) / 700 + (x : Int) / 700 / (y : Int) = (d1 : Int) := by rw [hd1, Int.natCast_add, Int.natCast_ediv, Int.natCast_ediv]; rfl
  have hw : wrap64 ((x : Int) / 700 + (x : Int) / 700 / (y : Int)) = (d1 : Int) := by rw [e1]; unfold wrap64; omega
  clear e1 m2
  clear hd1
  have hmx : max (x : Int) 0 = (x : Int) := by omega
  have hmy : max (y : Int) 1 = (y : Int) := by omega
  go_enter Try.func19, Try.ntmps19
  go_wp2_with fail
  go_loop [0, 7] (fun d k => ∃ dn kn : Nat, d = .int .i64 dn ∧ k = .int .i64 kn ∧ dn ≤ 8589934592 ∧ kn + dn ≤ 8589934592 + 36 ∧ Hid (adP x y true = adN dn kn)) (fun d _ => (intOf d).toNat)
  case atStart => exact ⟨d1, 0, by first | rw [hw] | rw [E1] | (congr 1 <;> omega), rfl, m3, by omega, HT.out⟩
  case round =>
    obtain ⟨dn, kn, rfl, rfl, b1, b2, H⟩ := hrel
    clear hw HT m3
    by_cases hd : 455 < dn
    · have HN : Hid (adP x y true = adN (dn / 35) (kn + 36)) := by show _ = _; rw [H.out, adN_eq, if_pos hd]
      have c1 : (455 : Int) < (dn : Int) := by omega
      have c2 : kn + 36 + dn / 35 ≤ 8589934592 + 36 := by omega
      go_wp2_with fail
      go_round
      case rel => exact ⟨dn / 35, kn + 36, by first | rfl | (congr 1; omega), by go_num, by omega, c2, HN.out⟩
      case measure => simp [intOf]; omega
    · have HN : Hid (adP x y true = kn + 36 * dn / (dn + 38)) := by show _ = _; rw [H.out, adN_eq, if_neg hd]
      have c1 : ¬ (455 : Int) < (dn : Int) := by omega
      have c2 : ¬ ((dn : Int) + 38 = 0) := by omega
      obtain ⟨q, hq⟩ : ∃ q : Nat, 36 * dn / (dn + 38) = q := ⟨_, rfl⟩
      have c3 : q ≤ 36 := by rw [← hq]; exact Nat.div_le_of_le_mul (by omega)
      have e3 : 36 * (dn : Int) / ((dn : Int) + 38) = (q : Int) := by rw [← hq, Int.natCast_ediv]; rfl
      rw [hq] at HN
      clear hq
      go_wp2_with fail
      go_ret
      exact ⟨ret_int (by rw [HN.out]; omega), rfl⟩
set_option maxHeartbeats 4000000 in
theorem ada_t01 (x : Nat) (hx : x ≤ 4294967296) (y : Int) (hy : y < 1) (w : World) :
    Calls Try.prog 19 #[.int .i64 x, .int .i64 y, .bool true] w fun e w' => e = .returned (.int .i64 (adP x 1 true : Nat)) ∧ w' = w := by
  obtain ⟨d1, hd1⟩ : ∃ d1 : Nat, d1 = x / 700 + x / 700 := ⟨_, rfl⟩
  have HT : Hid (adP x 1 true = adN d1 0) := by show _ = _; rw [hd1]; unfold adP; simp
  have m3 : d1 ≤ 8589934592 := by omega
  have e1 : (x : Int) / 700 + (x : Int) / 700 = (d1 : Int) := by rw [hd1]; omega
  have E1 := e1
  have hw : wrap64 ((x : Int) / 700 + (x : Int) / 700) = (d1 : Int) := by rw [e1]; unfold wrap64; omega
  clear e1
  have q3 : ¬ 1 ≤ y := by omega
  have q4 : y ≤ 1 := by omega
  clear hd1
  have hmx : max (x : Int) 0 = (x : Int) := by omega
  have hmy : max (y : Int) 1 = 1 := by omega
  go_enter Try.func19, Try.ntmps19
  go_wp2_with fail
  go_loop [0, 7] (fun d k => ∃ dn kn : Nat, d = .int .i64 dn ∧ k = .int .i64 kn ∧ dn ≤ 8589934592 ∧ kn + dn ≤ 8589934592 + 36 ∧ Hid (adP x 1 true = adN dn kn)) (fun d _ => (intOf d).toNat)
  case atStart => exact ⟨d1, 0, by first | rw [hw] | rw [E1] | (congr 1 <;> omega), rfl, m3, by omega, HT.out⟩
  case round =>
    obtain ⟨dn, kn, rfl, rfl, b1, b2, H⟩ := hrel
    clear hw HT m3
    by_cases hd : 455 < dn
    · have HN : Hid (adP x 1 true = adN (dn / 35) (kn + 36)) := by show _ = _; rw [H.out, adN_eq, if_pos hd]
      have c1 : (455 : Int) < (dn : Int) := by omega
      have c2 : kn + 36 + dn / 35 ≤ 8589934592 + 36 := by omega
      go_wp2_with fail
      go_round
      case rel => exact ⟨dn / 35, kn + 36, by first | rfl | (congr 1; omega), by go_num, by omega, c2, HN.out⟩
      case measure => simp [intOf]; omega
    · have HN : Hid (adP x 1 true = kn + 36 * dn / (dn + 38)) := by show _ = _; rw [H.out, adN_eq, if_neg hd]
      have c1 : ¬ (455 : Int) < (dn : Int) := by omega
      have c2 : ¬ ((dn : Int) + 38 = 0) := by omega
      obtain ⟨q, hq⟩ : ∃ q : Nat, 36 * dn / (dn + 38) = q := ⟨_, rfl⟩
      have c3 : q ≤ 36 := by rw [← hq]; exact Nat.div_le_of_le_mul (by omega)
      have e3 : 36 * (dn : Int) / ((dn : Int) + 38) = (q : Int) := by rw [← hq, Int.natCast_ediv]; rfl
      rw [hq] at HN
      clear hq
      go_wp2_with fail
      go_ret
      exact ⟨ret_int (by rw [HN.out]; omega), rfl⟩
set_option maxHeartbeats 4000000 in
theorem ada_t10 (x : Int) (hx : x < 0) (y : Nat) (hy : 1 ≤ y) (hy2 : y ≤ 4294967296) (w : World) :
    Calls Try.prog 19 #[.int .i64 x, .int .i64 y, .bool true] w fun e w' => e = .returned (.int .i64 (adP 0 y true : Nat)) ∧ w' = w := by
  obtain ⟨d1, hd1⟩ : ∃ d1 : Nat, d1 = 0 := ⟨_, rfl⟩
  have HT : Hid (adP 0 y true = adN d1 0) := by show _ = _; rw [hd1]; unfold adP; simp
  have m3 : d1 ≤ 8589934592 := by omega
  have hw : ((0 : Nat) : Int) = (d1 : Int) := by omega
  have q1 : ¬ 0 ≤ x := by omega
  have q2 : x ≤ 0 := by omega
  clear hd1
  have hmx : max (x : Int) 0 = 0 := by omega
  have hmy : max (y : Int) 1 = (y : Int) := by omega
  go_enter Try.func19, Try.ntmps19
  go_wp2_with fail
  go_loop [0, 7] (fun d k => ∃ dn kn : Nat, d = .int .i64 dn ∧ k = .int .i64 kn ∧ dn ≤ 8589934592 ∧ kn + dn ≤ 8589934592 + 36 ∧ Hid (adP 0 y true = adN dn kn)) (fun d _ => (intOf d).toNat)
  case atStart => exact ⟨d1, 0, by first | rw [hw] | rw [E1] | (congr 1 <;> omega), rfl, m3, by omega, HT.out⟩
  case round =>
    obtain ⟨dn, kn, rfl, rfl, b1, b2, H⟩ := hrel
    clear hw HT m3
    by_cases hd : 455 < dn
    · have HN : Hid (adP 0 y true = adN (dn / 35) (kn + 36)) := by show _ = _; rw [H.out, adN_eq, if_pos hd]
      have c1 : (455 : Int) < (dn : Int) := by omega
      have c2 : kn + 36 + dn / 35 ≤ 8589934592 + 36 := by omega
      go_wp2_with fail
      go_round
      case rel => exact ⟨dn / 35, kn + 36, by first | rfl | (congr 1; omega), by go_num, by omega, c2, HN.out⟩
      case measure => simp [intOf]; omega
    · have HN : Hid (adP 0 y true = kn + 36 * dn / (dn + 38)) := by show _ = _; rw [H.out, adN_eq, if_neg hd]
      have c1 : ¬ (455 : Int) < (dn : Int) := by omega
      have c2 : ¬ ((dn : Int) + 38 = 0) := by omega
      obtain ⟨q, hq⟩ : ∃ q : Nat, 36 * dn / (dn + 38) = q := ⟨_, rfl⟩
      have c3 : q ≤ 36 := by rw [← hq]; exact Nat.div_le_of_le_mul (by omega)
      have e3 : 36 * (dn : Int) / ((dn : Int) + 38) = (q : Int) := by rw [← hq, Int.natCast_ediv]; rfl
      rw [hq] at HN
      clear hq
      go_wp2_with fail
      go_ret
      exact ⟨ret_int (by rw [HN.out]; omega), rfl⟩
set_option maxHeartbeats 4000000 in
theorem ada_t11 (x : Int) (hx : x < 0) (y : Int) (hy : y < 1) (w : World) :
    Calls Try.prog 19 #[.int .i64 x, .int .i64 y, .bool true] w fun e w' => e = .returned (.int .i64 (adP 0 1 true : Nat)) ∧ w' = w := by
  obtain ⟨d1, hd1⟩ : ∃ d1 : Nat, d1 = 0 := ⟨_, rfl⟩
  have HT : Hid (adP 0 1 true = adN d1 0) := by show _ = _; rw [hd1]; unfold adP; simp
  have m3 : d1 ≤ 8589934592 := by omega
  have hw : ((0 : Nat) : Int) = (d1 : Int) := by omega
  have q1 : ¬ 0 ≤ x := by omega
  have q2 : x ≤ 0 := by omega
  have q3 : ¬ 1 ≤ y := by omega
  have q4 : y ≤ 1 := by omega
  clear hd1
  have hmx : max (x : Int) 0 = 0 := by omega
  have hmy : max (y : Int) 1 = 1 := by omega
  go_enter Try.func19, Try.ntmps19
  go_wp2_with fail
  go_loop [0, 7] (fun d k => ∃ dn kn : Nat, d = .int .i64 dn ∧ k = .int .i64 kn ∧ dn ≤ 8589934592 ∧ kn + dn ≤ 8589934592 + 36 ∧ Hid (adP 0 1 true = adN dn kn)) (fun d _ => (intOf d).toNat)
  case atStart => exact ⟨d1, 0, by first | rw [hw] | rw [E1] | (congr 1 <;> omega), rfl, m3, by omega, HT.out⟩
  case round =>
    obtain ⟨dn, kn, rfl, rfl, b1, b2, H⟩ := hrel
    clear hw HT m3
    by_cases hd : 455 < dn
    · have HN : Hid (adP 0 1 true = adN (dn / 35) (kn + 36)) := by show _ = _; rw [H.out, adN_eq, if_pos hd]
      have c1 : (455 : Int) < (dn : Int) := by omega
      have c2 : kn + 36 + dn / 35 ≤ 8589934592 + 36 := by omega
      go_wp2_with fail
      go_round
      case rel => exact ⟨dn / 35, kn + 36, by first | rfl | (congr 1; omega), by go_num, by omega, c2, HN.out⟩
      case measure => simp [intOf]; omega
    · have HN : Hid (adP 0 1 true = kn + 36 * dn / (dn + 38)) := by show _ = _; rw [H.out, adN_eq, if_neg hd]
      have c1 : ¬ (455 : Int) < (dn : Int) := by omega
      have c2 : ¬ ((dn : Int) + 38 = 0) := by omega
      obtain ⟨q, hq⟩ : ∃ q : Nat, 36 * dn / (dn + 38) = q := ⟨_, rfl⟩
      have c3 : q ≤ 36 := by rw [← hq]; exact Nat.div_le_of_le_mul (by omega)
      have e3 : 36 * (dn : Int) / ((dn : Int) + 38) = (q : Int) := by rw [← hq, Int.natCast_ediv]; rfl
      rw [hq] at HN
      clear hq
      go_wp2_with fail
      go_ret
      exact ⟨ret_int (by rw [HN.out]; omega), rfl⟩
set_option maxHeartbeats 4000000 in
theorem ada_f00 (x : Nat) (hx : x ≤ 4294967296) (y : Nat) (hy : 1 ≤ y) (hy2 : y ≤ 4294967296) (w : World) :
    Calls Try.prog 19 #[.int .i64 x, .int .i64 y, .bool false] w fun e w' => e = .returned (.int .i64 (adP x y false : Nat)) ∧ w' = w := by
  obtain ⟨d1, hd1⟩ : ∃ d1 : Nat, d1 = x / 2 + x / 2 / y := ⟨_, rfl⟩
  have HT : Hid (adP x y false = adN d1 0) := by show _ = _; rw [hd1]; unfold adP; simp
  have m2 : x / 2 / y ≤ x / 2 := Nat.div_le_self _ _
  have m3 : d1 ≤ 8589934592 := by omega
  have e1 : (x : Int) / 2 + (x : Int) / 2 / (y : Int) = (d1 : Int) := by rw [hd1, Int.natCast_add, Int.natCast_ediv, Int.natCast_ediv]; rfl
  have hw : wrap64 ((x : Int) / 2 + (x : Int) / 2 / (y : Int)) = (d1 : Int) := by rw [e1]; unfold wrap64; omega
  clear e1 m2
  clear hd1
  have hmx : max (x : Int) 0 = (x : Int) := by omega
  have hmy : max (y : Int) 1 = (y : Int) := by omega
  go_enter Try.func19, Try.ntmps19
  go_wp2_with fail
  go_loop [0, 7] (fun d k => ∃ dn kn : Nat, d = .int .i64 dn ∧ k = .int .i64 kn ∧ dn ≤ 8589934592 ∧ kn + dn ≤ 8589934592 + 36 ∧ Hid (adP x y false = adN dn kn)) (fun d _ => (intOf d).toNat)
  case atStart => exact ⟨d1, 0, by first | rw [hw] | rw [E1] | (congr 1 <;> omega), rfl, m3, by omega, HT.out⟩
  case round =>
    obtain ⟨dn, kn, rfl, rfl, b1, b2, H⟩ := hrel
    clear hw HT m3
    by_cases hd : 455 < dn
    · have HN : Hid (adP x y false = adN (dn / 35) (kn + 36)) := by show _ = _; rw [H.out, adN_eq, if_pos hd]
      have c1 : (455 : Int) < (dn : Int) := by omega
      have c2 : kn + 36 + dn / 35 ≤ 8589934592 + 36 := by omega
      go_wp2_with fail
      go_round
      case rel => exact ⟨dn / 35, kn + 36, by first | rfl | (congr 1; omega), by go_num, by omega, c2, HN.out⟩
      case measure => simp [intOf]; omega
    · have HN : Hid (adP x y false = kn + 36 * dn / (dn + 38)) := by show _ = _; rw [H.out, adN_eq, if_neg hd]
      have c1 : ¬ (455 : Int) < (dn : Int) := by omega
      have c2 : ¬ ((dn : Int) + 38 = 0) := by omega
      obtain ⟨q, hq⟩ : ∃ q : Nat, 36 * dn / (dn + 38) = q := ⟨_, rfl⟩
      have c3 : q ≤ 36 := by rw [← hq]; exact Nat.div_le_of_le_mul (by omega)
      have e3 : 36 * (dn : Int) / ((dn : Int) + 38) = (q : Int) := by rw [← hq, Int.natCast_ediv]; rfl
      rw [hq] at HN
      clear hq
      go_wp2_with fail
      go_ret
      exact ⟨ret_int (by rw [HN.out]; omega), rfl⟩
set_option maxHeartbeats 4000000 in
theorem ada_f01 (x : Nat) (hx : x ≤ 4294967296) (y : Int) (hy : y < 1) (w : World) :
    Calls Try.prog 19 #[.int .i64 x, .int .i64 y, .bool false] w fun e w' => e = .returned (.int .i64 (adP x 1 false : Nat)) ∧ w' = w := by
  obtain ⟨d1, hd1⟩ : ∃ d1 : Nat, d1 = x / 2 + x / 2 := ⟨_, rfl⟩
  have HT : Hid (adP x 1 false = adN d1 0) := by show _ = _; rw [hd1]; unfold adP; simp
  have m3 : d1 ≤ 8589934592 := by omega
  have e1 : (x : Int) / 2 + (x : Int) / 2 = (d1 : Int) := by rw [hd1]; omega
  have E1 := e1
  have hw : wrap64 ((x : Int) / 2 + (x : Int) / 2) = (d1 : Int) := by rw [e1]; unfold wrap64; omega
  clear e1
  have q3 : ¬ 1 ≤ y := by omega
  have q4 : y ≤ 1 := by omega
  clear hd1
  have hmx : max (x : Int) 0 = (x : Int) := by omega
  have hmy : max (y : Int) 1 = 1 := by omega
  go_enter Try.func19, Try.ntmps19
  go_wp2_with fail
  go_loop [0, 7] (fun d k => ∃ dn kn : Nat, d = .int .i64 dn ∧ k = .int .i64 kn ∧ dn ≤ 8589934592 ∧ kn + dn ≤ 8589934592 + 36 ∧ Hid (adP x 1 false = adN dn kn)) (fun d _ => (intOf d).toNat)
  case atStart => exact ⟨d1, 0, by first | rw [hw] | rw [E1] | (congr 1 <;> omega), rfl, m3, by omega, HT.out⟩
  case round =>
    obtain ⟨dn, kn, rfl, rfl, b1, b2, H⟩ := hrel
    clear hw HT m3
    by_cases hd : 455 < dn
    · have HN : Hid (adP x 1 false = adN (dn / 35) (kn + 36)) := by show _ = _; rw [H.out, adN_eq, if_pos hd]
      have c1 : (455 : Int) < (dn : Int) := by omega
      have c2 : kn + 36 + dn / 35 ≤ 8589934592 + 36 := by omega
      go_wp2_with fail
      go_round
      case rel => exact ⟨dn / 35, kn + 36, by first | rfl | (congr 1; omega), by go_num, by omega, c2, HN.out⟩
      case measure => simp [intOf]; omega
    · have HN : Hid (adP x 1 false = kn + 36 * dn / (dn + 38)) := by show _ = _; rw [H.out, adN_eq, if_neg hd]
      have c1 : ¬ (455 : Int) < (dn : Int) := by omega
      have c2 : ¬ ((dn : Int) + 38 = 0) := by omega
      obtain ⟨q, hq⟩ : ∃ q : Nat, 36 * dn / (dn + 38) = q := ⟨_, rfl⟩
      have c3 : q ≤ 36 := by rw [← hq]; exact Nat.div_le_of_le_mul (by omega)
      have e3 : 36 * (dn : Int) / ((dn : Int) + 38) = (q : Int) := by rw [← hq, Int.natCast_ediv]; rfl
      rw [hq] at HN
      clear hq
      go_wp2_with fail
      go_ret
      exact ⟨ret_int (by rw [HN.out]; omega), rfl⟩
set_option maxHeartbeats 4000000 in
theorem ada_f10 (x : Int) (hx : x < 0) (y : Nat) (hy : 1 ≤ y) (hy2 : y ≤ 4294967296) (w : World) :
    Calls Try.prog 19 #[.int .i64 x, .int .i64 y, .bool false] w fun e w' => e = .returned (.int .i64 (adP 0 y false : Nat)) ∧ w' = w := by
  obtain ⟨d1, hd1⟩ : ∃ d1 : Nat, d1 = 0 := ⟨_, rfl⟩
  have HT : Hid (adP 0 y false = adN d1 0) := by show _ = _; rw [hd1]; unfold adP; simp
  have m3 : d1 ≤ 8589934592 := by omega
  have hw : ((0 : Nat) : Int) = (d1 : Int) := by omega
  have q1 : ¬ 0 ≤ x := by omega
  have q2 : x ≤ 0 := by omega
  clear hd1
  have hmx : max (x : Int) 0 = 0 := by omega
  have hmy : max (y : Int) 1 = (y : Int) := by omega
  go_enter Try.func19, Try.ntmps19
  go_wp2_with fail
  go_loop [0, 7] (fun d k => ∃ dn kn : Nat, d = .int .i64 dn ∧ k = .int .i64 kn ∧ dn ≤ 8589934592 ∧ kn + dn ≤ 8589934592 + 36 ∧ Hid (adP 0 y false = adN dn kn)) (fun d _ => (intOf d).toNat)
  case atStart => exact ⟨d1, 0, by first | rw [hw] | rw [E1] | (congr 1 <;> omega), rfl, m3, by omega, HT.out⟩
  case round =>
    obtain ⟨dn, kn, rfl, rfl, b1, b2, H⟩ := hrel
    clear hw HT m3
    by_cases hd : 455 < dn
    · have HN : Hid (adP 0 y false = adN (dn / 35) (kn + 36)) := by show _ = _; rw [H.out, adN_eq, if_pos hd]
      have c1 : (455 : Int) < (dn : Int) := by omega
      have c2 : kn + 36 + dn / 35 ≤ 8589934592 + 36 := by omega
      go_wp2_with fail
      go_round
      case rel => exact ⟨dn / 35, kn + 36, by first | rfl | (congr 1; omega), by go_num, by omega, c2, HN.out⟩
      case measure => simp [intOf]; omega
    · have HN : Hid (adP 0 y false = kn + 36 * dn / (dn + 38)) := by show _ = _; rw [H.out, adN_eq, if_neg hd]
      have c1 : ¬ (455 : Int) < (dn : Int) := by omega
      have c2 : ¬ ((dn : Int) + 38 = 0) := by omega
      obtain ⟨q, hq⟩ : ∃ q : Nat, 36 * dn / (dn + 38) = q := ⟨_, rfl⟩
      have c3 : q ≤ 36 := by rw [← hq]; exact Nat.div_le_of_le_mul (by omega)
      have e3 : 36 * (dn : Int) / ((dn : Int) + 38) = (q : Int) := by rw [← hq, Int.natCast_ediv]; rfl
      rw [hq] at HN
      clear hq
      go_wp2_with fail
      go_ret
      exact ⟨ret_int (by rw [HN.out]; omega), rfl⟩
set_option maxHeartbeats 4000000 in
theorem ada_f11 (x : Int) (hx : x < 0) (y : Int) (hy : y < 1) (w : World) :
    Calls Try.prog 19 #[.int .i64 x, .int .i64 y, .bool false] w fun e w' => e = .returned (.int .i64 (adP 0 1 false : Nat)) ∧ w' = w := by
  obtain ⟨d1, hd1⟩ : ∃ d1 : Nat, d1 = 0 := ⟨_, rfl⟩
  have HT : Hid (adP 0 1 false = adN d1 0) := by show _ = _; rw [hd1]; unfold adP; simp
  have m3 : d1 ≤ 8589934592 := by omega
  have hw : ((0 : Nat) : Int) = (d1 : Int) := by omega
  have q1 : ¬ 0 ≤ x := by omega
  have q2 : x ≤ 0 := by omega
  have q3 : ¬ 1 ≤ y := by omega
  have q4 : y ≤ 1 := by omega
  clear hd1
  have hmx : max (x : Int) 0 = 0 := by omega
  have hmy : max (y : Int) 1 = 1 := by omega
  go_enter Try.func19, Try.ntmps19
  go_wp2_with fail
  go_loop [0, 7] (fun d k => ∃ dn kn : Nat, d = .int .i64 dn ∧ k = .int .i64 kn ∧ dn ≤ 8589934592 ∧ kn + dn ≤ 8589934592 + 36 ∧ Hid (adP 0 1 false = adN dn kn)) (fun d _ => (intOf d).toNat)
  case atStart => exact ⟨d1, 0, by first | rw [hw] | rw [E1] | (congr 1 <;> omega), rfl, m3, by omega, HT.out⟩
  case round =>
    obtain ⟨dn, kn, rfl, rfl, b1, b2, H⟩ := hrel
    clear hw HT m3
    by_cases hd : 455 < dn
    · have HN : Hid (adP 0 1 false = adN (dn / 35) (kn + 36)) := by show _ = _; rw [H.out, adN_eq, if_pos hd]
      have c1 : (455 : Int) < (dn : Int) := by omega
      have c2 : kn + 36 + dn / 35 ≤ 8589934592 + 36 := by omega
      go_wp2_with fail
      go_round
      case rel => exact ⟨dn / 35, kn + 36, by first | rfl | (congr 1; omega), by go_num, by omega, c2, HN.out⟩
      case measure => simp [intOf]; omega
    · have HN : Hid (adP 0 1 false = kn + 36 * dn / (dn + 38)) := by show _ = _; rw [H.out, adN_eq, if_neg hd]
      have c1 : ¬ (455 : Int) < (dn : Int) := by omega
      have c2 : ¬ ((dn : Int) + 38 = 0) := by omega
      obtain ⟨q, hq⟩ : ∃ q : Nat, 36 * dn / (dn + 38) = q := ⟨_, rfl⟩
      have c3 : q ≤ 36 := by rw [← hq]; exact Nat.div_le_of_le_mul (by omega)
      have e3 : 36 * (dn : Int) / ((dn : Int) + 38) = (q : Int) := by rw [← hq, Int.natCast_ediv]; rfl
      rw [hq] at HN
      clear hq
      go_wp2_with fail
      go_ret
      exact ⟨ret_int (by rw [HN.out]; omega), rfl⟩
theorem ada_any (x y : Int) (f : Bool) (w : World) (hx : x ≤ 4294967296) (hy : y ≤ 4294967296) : Calls Try.prog 19 #[.int .i64 x, .int .i64 y, .bool f] w fun e w' => e = .returned (.int .i64 (adP x.toNat (if y < 1 then 1 else y.toNat) f : Nat)) ∧ w' = w := by
  by_cases h1 : x < 0
  · have e1 : x.toNat = 0 := by omega
    by_cases h2 : y < 1
    · rw [e1, if_pos h2]
      cases f
      · exact ada_f11 x h1 y h2 w
      · exact ada_t11 x h1 y h2 w
    · rw [e1, if_neg h2]
      obtain ⟨m, rfl⟩ : ∃ m : Nat, y = m := ⟨y.toNat, by omega⟩
      rw [Int.toNat_natCast]
      cases f
      · exact ada_f10 x h1 m (by omega) (by omega) w
      · exact ada_t10 x h1 m (by omega) (by omega) w
  · obtain ⟨n, rfl⟩ : ∃ n : Nat, x = n := ⟨x.toNat, by omega⟩
    rw [Int.toNat_natCast]
    by_cases h2 : y < 1
    · rw [if_pos h2]
      cases f
      · exact ada_f01 n (by omega) y h2 w
      · exact ada_t01 n (by omega) y h2 w
    · rw [if_neg h2]
      obtain ⟨m, rfl⟩ : ∃ m : Nat, y = m := ⟨y.toNat, by omega⟩
      rw [Int.toNat_natCast]
      cases f
      · exact ada_f00 n (by omega) m (by omega) (by omega) w
      · exact ada_t00 n (by omega) m (by omega) (by omega) w
set_option maxHeartbeats 4000000 in
theorem rada_t00 (x : Nat) (hx : x ≤ 4294967296) (y : Nat) (hy : 1 ≤ y) (hy2 : y ≤ 4294967296) (w : World) :
    Calls Try.prog 20 #[.int .i64 x, .int .i64 y, .bool true] w fun e w' => e = .returned (.int .i64 (adP x y true : Nat)) ∧ w' = w := by
  obtain ⟨d1, hd1⟩ : ∃ d1 : Nat, d1 = x / 700 + x / 700 / y := ⟨_, rfl⟩
  have HT : Hid (adP x y true = adN d1 0) := by show _ = _; rw [hd1]; unfold adP; simp
  have m2 : x / 700 / y ≤ x / 700 := Nat.div_le_self _ _
  have m3 : d1 ≤ 8589934592 := by omega
  have e1 : (x : Int) / 700 + (x : Int) / 700 / (y : Int) = (d1 : Int) := by rw [hd1, Int.natCast_add, Int.natCast_ediv, Int.natCast_ediv]; rfl
  have hw : wrap64 ((x : Int) / 700 + (x : Int) / 700 / (y : Int)) = (d1 : Int) := by rw [e1]; unfold wrap64; omega
  clear e1 m2
  clear hd1
  have hmx : max (x : Int) 0 = (x : Int) := by omega
  have hmy : max (y : Int) 1 = (y : Int) := by omega
  go_enter Try.func20, Try.ntmps20
  go_wp2_with fail
  go_loop [7, 9] (fun d k => ∃ dn kn : Nat, d = .int .i64 dn ∧ k = .int .i64 kn ∧ dn ≤ 8589934592 ∧ kn + dn ≤ 8589934592 + 36 ∧ Hid (adP x y true = adN dn kn)) (fun d _ => (intOf d).toNat)
  case atStart => exact ⟨d1, 0, by first | rw [hw] | rw [E1] | (congr 1 <;> omega), rfl, m3, by omega, HT.out⟩
  case round =>
    obtain ⟨dn, kn, rfl, rfl, b1, b2, H⟩ := hrel
    clear hw HT m3
    by_cases hd : 455 < dn
    · have HN : Hid (adP x y true = adN (dn / 35) (kn + 36)) := by show _ = _; rw [H.out, adN_eq, if_pos hd]
      have c1 : (455 : Int) < (dn : Int) := by omega
      have c2 : kn + 36 + dn / 35 ≤ 8589934592 + 36 := by omega
      go_wp2_with fail
      go_round
      case rel => exact ⟨dn / 35, kn + 36, by first | rfl | (congr 1; omega), by go_num, by omega, c2, HN.out⟩
      case measure => simp [intOf]; omega
    · have HN : Hid (adP x y true = kn + 36 * dn / (dn + 38)) := by show _ = _; rw [H.out, adN_eq, if_neg hd]
      have c1 : ¬ (455 : Int) < (dn : Int) := by omega
      have c2 : ¬ ((dn : Int) + 38 = 0) := by omega
      obtain ⟨q, hq⟩ : ∃ q : Nat, 36 * dn / (dn + 38) = q := ⟨_, rfl⟩
      have c3 : q ≤ 36 := by rw [← hq]; exact Nat.div_le_of_le_mul (by omega)
      have e3 : 36 * (dn : Int) / ((dn : Int) + 38) = (q : Int) := by rw [← hq, Int.natCast_ediv]; rfl
      rw [hq] at HN
      clear hq
      go_wp2_with fail
      go_ret
      exact ⟨ret_int (by rw [HN.out]; omega), rfl⟩
set_option maxHeartbeats 4000000 in
theorem rada_t01 (x : Nat) (hx : x ≤ 4294967296) (y : Int) (hy : y < 1) (w : World) :
    Calls Try.prog 20 #[.int .i64 x, .int .i64 y, .bool true] w fun e w' => e = .returned (.int .i64 (adP x 1 true : Nat)) ∧ w' = w := by
  obtain ⟨d1, hd1⟩ : ∃ d1 : Nat, d1 = x / 700 + x / 700 := ⟨_, rfl⟩
  have HT : Hid (adP x 1 true = adN d1 0) := by show _ = _; rw [hd1]; unfold adP; simp
  have m3 : d1 ≤ 8589934592 := by omega
  have e1 : (x : Int) / 700 + (x : Int) / 700 = (d1 : Int) := by rw [hd1]; omega
  have E1 := e1
  have hw : wrap64 ((x : Int) / 700 + (x : Int) / 700) = (d1 : Int) := by rw [e1]; unfold wrap64; omega
  clear e1
  have q3 : ¬ 1 ≤ y := by omega
  have q4 : y ≤ 1 := by omega
  clear hd1
  have hmx : max (x : Int) 0 = (x : Int) := by omega
  have hmy : max (y : Int) 1 = 1 := by omega
  go_enter Try.func20, Try.ntmps20
  go_wp2_with fail
  go_loop [7, 9] (fun d k => ∃ dn kn : Nat, d = .int .i64 dn ∧ k = .int .i64 kn ∧ dn ≤ 8589934592 ∧ kn + dn ≤ 8589934592 + 36 ∧ Hid (adP x 1 true = adN dn kn)) (fun d _ => (intOf d).toNat)
  case atStart => exact ⟨d1, 0, by first | rw [hw] | rw [E1] | (congr 1 <;> omega), rfl, m3, by omega, HT.out⟩
  case round =>
    obtain ⟨dn, kn, rfl, rfl, b1, b2, H⟩ := hrel
    clear hw HT m3
    by_cases hd : 455 < dn
    · have HN : Hid (adP x 1 true = adN (dn / 35) (kn + 36)) := by show _ = _; rw [H.out, adN_eq, if_pos hd]
      have c1 : (455 : Int) < (dn : Int) := by omega
      have c2 : kn + 36 + dn / 35 ≤ 8589934592 + 36 := by omega
      go_wp2_with fail
      go_round
      case rel => exact ⟨dn / 35, kn + 36, by first | rfl | (congr 1; omega), by go_num, by omega, c2, HN.out⟩
      case measure => simp [intOf]; omega
    · have HN : Hid (adP x 1 true = kn + 36 * dn / (dn + 38)) := by show _ = _; rw [H.out, adN_eq, if_neg hd]
      have c1 : ¬ (455 : Int) < (dn : Int) := by omega
      have c2 : ¬ ((dn : Int) + 38 = 0) := by omega
      obtain ⟨q, hq⟩ : ∃ q : Nat, 36 * dn / (dn + 38) = q := ⟨_, rfl⟩
      have c3 : q ≤ 36 := by rw [← hq]; exact Nat.div_le_of_le_mul (by omega)
      have e3 : 36 * (dn : Int) / ((dn : Int) + 38) = (q : Int) := by rw [← hq, Int.natCast_ediv]; rfl
      rw [hq] at HN
      clear hq
      go_wp2_with fail
      go_ret
      exact ⟨ret_int (by rw [HN.out]; omega), rfl⟩
set_option maxHeartbeats 4000000 in
theorem rada_t10 (x : Int) (hx : x < 0) (y : Nat) (hy : 1 ≤ y) (hy2 : y ≤ 4294967296) (w : World) :
    Calls Try.prog 20 #[.int .i64 x, .int .i64 y, .bool true] w fun e w' => e = .returned (.int .i64 (adP 0 y true : Nat)) ∧ w' = w := by
  obtain ⟨d1, hd1⟩ : ∃ d1 : Nat, d1 = 0 := ⟨_, rfl⟩
  have HT : Hid (adP 0 y true = adN d1 0) := by show _ = _; rw [hd1]; unfold adP; simp
  have m3 : d1 ≤ 8589934592 := by omega
  have hw : ((0 : Nat) : Int) = (d1 : Int) := by omega
  have q1 : ¬ 0 ≤ x := by omega
  have q2 : x ≤ 0 := by omega
  clear hd1
  have hmx : max (x : Int) 0 = 0 := by omega
  have hmy : max (y : Int) 1 = (y : Int) := by omega
  go_enter Try.func20, Try.ntmps20
  go_wp2_with fail
  go_loop [7, 9] (fun d k => ∃ dn kn : Nat, d = .int .i64 dn ∧ k = .int .i64 kn ∧ dn ≤ 8589934592 ∧ kn + dn ≤ 8589934592 + 36 ∧ Hid (adP 0 y true = adN dn kn)) (fun d _ => (intOf d).toNat)
  case atStart => exact ⟨d1, 0, by first | rw [hw] | rw [E1] | (congr 1 <;> omega), rfl, m3, by omega, HT.out⟩
  case round =>
    obtain ⟨dn, kn, rfl, rfl, b1, b2, H⟩ := hrel
    clear hw HT m3
    by_cases hd : 455 < dn
    · have HN : Hid (adP 0 y true = adN (dn / 35) (kn + 36)) := by show _ = _; rw [H.out, adN_eq, if_pos hd]
      have c1 : (455 : Int) < (dn : Int) := by omega
      have c2 : kn + 36 + dn / 35 ≤ 8589934592 + 36 := by omega
      go_wp2_with fail
      go_round
      case rel => exact ⟨dn / 35, kn + 36, by first | rfl | (congr 1; omega), by go_num, by omega, c2, HN.out⟩
      case measure => simp [intOf]; omega
    · have HN : Hid (adP 0 y true = kn + 36 * dn / (dn + 38)) := by show _ = _; rw [H.out, adN_eq, if_neg hd]
      have c1 : ¬ (455 : Int) < (dn : Int) := by omega
      have c2 : ¬ ((dn : Int) + 38 = 0) := by omega
      obtain ⟨q, hq⟩ : ∃ q : Nat, 36 * dn / (dn + 38) = q := ⟨_, rfl⟩
      have c3 : q ≤ 36 := by rw [← hq]; exact Nat.div_le_of_le_mul (by omega)
      have e3 : 36 * (dn : Int) / ((dn : Int) + 38) = (q : Int) := by rw [← hq, Int.natCast_ediv]; rfl
      rw [hq] at HN
      clear hq
      go_wp2_with fail
      go_ret
      exact ⟨ret_int (by rw [HN.out]; omega), rfl⟩
set_option maxHeartbeats 4000000 in
theorem rada_t11 (x : Int) (hx : x < 0) (y : Int) (hy : y < 1) (w : World) :
    Calls Try.prog 20 #[.int .i64 x, .int .i64 y, .bool true] w fun e w' => e = .returned (.int .i64 (adP 0 1 true : Nat)) ∧ w' = w := by
  obtain ⟨d1, hd1⟩ : ∃ d1 : Nat, d1 = 0 := ⟨_, rfl⟩
  have HT : Hid (adP 0 1 true = adN d1 0) := by show _ = _; rw [hd1]; unfold adP; simp
  have m3 : d1 ≤ 8589934592 := by omega
  have hw : ((0 : Nat) : Int) = (d1 : Int) := by omega
  have q1 : ¬ 0 ≤ x := by omega
  have q2 : x ≤ 0 := by omega
  have q3 : ¬ 1 ≤ y := by omega
  have q4 : y ≤ 1 := by omega
  clear hd1
  have hmx : max (x : Int) 0 = 0 := by omega
  have hmy : max (y : Int) 1 = 1 := by omega
  go_enter Try.func20, Try.ntmps20
  go_wp2_with fail
  go_loop [7, 9] (fun d k => ∃ dn kn : Nat, d = .int .i64 dn ∧ k = .int .i64 kn ∧ dn ≤ 8589934592 ∧ kn + dn ≤ 8589934592 + 36 ∧ Hid (adP 0 1 true = adN dn kn)) (fun d _ => (intOf d).toNat)
  case atStart => exact ⟨d1, 0, by first | rw [hw] | rw [E1] | (congr 1 <;> omega), rfl, m3, by omega, HT.out⟩
  case round =>
    obtain ⟨dn, kn, rfl, rfl, b1, b2, H⟩ := hrel
    clear hw HT m3
    by_cases hd : 455 < dn
    · have HN : Hid (adP 0 1 true = adN (dn / 35) (kn + 36)) := by show _ = _; rw [H.out, adN_eq, if_pos hd]
      have c1 : (455 : Int) < (dn : Int) := by omega
      have c2 : kn + 36 + dn / 35 ≤ 8589934592 + 36 := by omega
      go_wp2_with fail
      go_round
      case rel => exact ⟨dn / 35, kn + 36, by first | rfl | (congr 1; omega), by go_num, by omega, c2, HN.out⟩
      case measure => simp [intOf]; omega
    · have HN : Hid (adP 0 1 true = kn + 36 * dn / (dn + 38)) := by show _ = _; rw [H.out, adN_eq, if_neg hd]
      have c1 : ¬ (455 : Int) < (dn : Int) := by omega
      have c2 : ¬ ((dn : Int) + 38 = 0) := by omega
      obtain ⟨q, hq⟩ : ∃ q : Nat, 36 * dn / (dn + 38) = q := ⟨_, rfl⟩
      have c3 : q ≤ 36 := by rw [← hq]; exact Nat.div_le_of_le_mul (by omega)
      have e3 : 36 * (dn : Int) / ((dn : Int) + 38) = (q : Int) := by rw [← hq, Int.natCast_ediv]; rfl
      rw [hq] at HN
      clear hq
      go_wp2_with fail
      go_ret
      exact ⟨ret_int (by rw [HN.out]; omega), rfl⟩
set_option maxHeartbeats 4000000 in
theorem rada_f00 (x : Nat) (hx : x ≤ 4294967296) (y : Nat) (hy : 1 ≤ y) (hy2 : y ≤ 4294967296) (w : World) :
    Calls Try.prog 20 #[.int .i64 x, .int .i64 y, .bool false] w fun e w' => e = .returned (.int .i64 (adP x y false : Nat)) ∧ w' = w := by
  obtain ⟨d1, hd1⟩ : ∃ d1 : Nat, d1 = x / 2 + x / 2 / y := ⟨_, rfl⟩
  have HT : Hid (adP x y false = adN d1 0) := by show _ = _; rw [hd1]; unfold adP; simp
  have m2 : x / 2 / y ≤ x / 2 := Nat.div_le_self _ _
  have m3 : d1 ≤ 8589934592 := by omega
  have e1 : (x : Int) / 2 + (x : Int) / 2 / (y : Int) = (d1 : Int) := by rw [hd1, Int.natCast_add, Int.natCast_ediv, Int.natCast_ediv]; rfl
  have hw : wrap64 ((x : Int) / 2 + (x : Int) / 2 / (y : Int)) = (d1 : Int) := by rw [e1]; unfold wrap64; omega
  clear e1 m2
  clear hd1
  have hmx : max (x : Int) 0 = (x : Int) := by omega
  have hmy : max (y : Int) 1 = (y : Int) := by omega
  go_enter Try.func20, Try.ntmps20
  go_wp2_with fail
  go_loop [7, 9] (fun d k => ∃ dn kn : Nat, d = .int .i64 dn ∧ k = .int .i64 kn ∧ dn ≤ 8589934592 ∧ kn + dn ≤ 8589934592 + 36 ∧ Hid (adP x y false = adN dn kn)) (fun d _ => (intOf d).toNat)
  case atStart => exact ⟨d1, 0, by first | rw [hw] | rw [E1] | (congr 1 <;> omega), rfl, m3, by omega, HT.out⟩
  case round =>
    obtain ⟨dn, kn, rfl, rfl, b1, b2, H⟩ := hrel
    clear hw HT m3
    by_cases hd : 455 < dn
    · have HN : Hid (adP x y false = adN (dn / 35) (kn + 36)) := by show _ = _; rw [H.out, adN_eq, if_pos hd]
      have c1 : (455 : Int) < (dn : Int) := by omega
      have c2 : kn + 36 + dn / 35 ≤ 8589934592 + 36 := by omega
      go_wp2_with fail
      go_round
      case rel => exact ⟨dn / 35, kn + 36, by first | rfl | (congr 1; omega), by go_num, by omega, c2, HN.out⟩
      case measure => simp [intOf]; omega
    · have HN : Hid (adP x y false = kn + 36 * dn / (dn + 38)) := by show _ = _; rw [H.out, adN_eq, if_neg hd]
      have c1 : ¬ (455 : Int) < (dn : Int) := by omega
      have c2 : ¬ ((dn : Int) + 38 = 0) := by omega
      obtain ⟨q, hq⟩ : ∃ q : Nat, 36 * dn / (dn + 38) = q := ⟨_, rfl⟩
      have c3 : q ≤ 36 := by rw [← hq]; exact Nat.div_le_of_le_mul (by omega)
      have e3 : 36 * (dn : Int) / ((dn : Int) + 38) = (q : Int) := by rw [← hq, Int.natCast_ediv]; rfl
      rw [hq] at HN
      clear hq
      go_wp2_with fail
      go_ret
      exact ⟨ret_int (by rw [HN.out]; omega), rfl⟩
set_option maxHeartbeats 4000000 in
theorem rada_f01 (x : Nat) (hx : x ≤ 4294967296) (y : Int) (hy : y < 1) (w : World) :
    Calls Try.prog 20 #[.int .i64 x, .int .i64 y, .bool false] w fun e w' => e = .returned (.int .i64 (adP x 1 false : Nat)) ∧ w' = w := by
  obtain ⟨d1, hd1⟩ : ∃ d1 : Nat, d1 = x / 2 + x / 2 := ⟨_, rfl⟩
  have HT : Hid (adP x 1 false = adN d1 0) := by show _ = _; rw [hd1]; unfold adP; simp
  have m3 : d1 ≤ 8589934592 := by omega
  have e1 : (x : Int) / 2 + (x : Int) / 2 = (d1 : Int) := by rw [hd1]; omega
  have E1 := e1
  have hw : wrap64 ((x : Int) / 2 + (x : Int) / 2) = (d1 : Int) := by rw [e1]; unfold wrap64; omega
  clear e1
  have q3 : ¬ 1 ≤ y := by omega
  have q4 : y ≤ 1 := by omega
  clear hd1
  have hmx : max (x : Int) 0 = (x : Int) := by omega
  have hmy : max (y : Int) 1 = 1 := by omega
  go_enter Try.func20, Try.ntmps20
  go_wp2_with fail
  go_loop [7, 9] (fun d k => ∃ dn kn : Nat, d = .int .i64 dn ∧ k = .int .i64 kn ∧ dn ≤ 8589934592 ∧ kn + dn ≤ 8589934592 + 36 ∧ Hid (adP x 1 false = adN dn kn)) (fun d _ => (intOf d).toNat)
  case atStart => exact ⟨d1, 0, by first | rw [hw] | rw [E1] | (congr 1 <;> omega), rfl, m3, by omega, HT.out⟩
  case round =>
    obtain ⟨dn, kn, rfl, rfl, b1, b2, H⟩ := hrel
    clear hw HT m3
    by_cases hd : 455 < dn
    · have HN : Hid (adP x 1 false = adN (dn / 35) (kn + 36)) := by show _ = _; rw [H.out, adN_eq, if_pos hd]
      have c1 : (455 : Int) < (dn : Int) := by omega
      have c2 : kn + 36 + dn / 35 ≤ 8589934592 + 36 := by omega
      go_wp2_with fail
      go_round
      case rel => exact ⟨dn / 35, kn + 36, by first | rfl | (congr 1; omega), by go_num, by omega, c2, HN.out⟩
      case measure => simp [intOf]; omega
    · have HN : Hid (adP x 1 false = kn + 36 * dn / (dn + 38)) := by show _ = _; rw [H.out, adN_eq, if_neg hd]
      have c1 : ¬ (455 : Int) < (dn : Int) := by omega
      have c2 : ¬ ((dn : Int) + 38 = 0) := by omega
      obtain ⟨q, hq⟩ : ∃ q : Nat, 36 * dn / (dn + 38) = q := ⟨_, rfl⟩
      have c3 : q ≤ 36 := by rw [← hq]; exact Nat.div_le_of_le_mul (by omega)
      have e3 : 36 * (dn : Int) / ((dn : Int) + 38) = (q : Int) := by rw [← hq, Int.natCast_ediv]; rfl
      rw [hq] at HN
      clear hq
      go_wp2_with fail
      go_ret
      exact ⟨ret_int (by rw [HN.out]; omega), rfl⟩
set_option maxHeartbeats 4000000 in
theorem rada_f10 (x : Int) (hx : x < 0) (y : Nat) (hy : 1 ≤ y) (hy2 : y ≤ 4294967296) (w : World) :
    Calls Try.prog 20 #[.int .i64 x, .int .i64 y, .bool false] w fun e w' => e = .returned (.int .i64 (adP 0 y false : Nat)) ∧ w' = w := by
  obtain ⟨d1, hd1⟩ : ∃ d1 : Nat, d1 = 0 := ⟨_, rfl⟩
  have HT : Hid (adP 0 y false = adN d1 0) := by show _ = _; rw [hd1]; unfold adP; simp
  have m3 : d1 ≤ 8589934592 := by omega
  have hw : ((0 : Nat) : Int) = (d1 : Int) := by omega
  have q1 : ¬ 0 ≤ x := by omega
  have q2 : x ≤ 0 := by omega
  clear hd1
  have hmx : max (x : Int) 0 = 0 := by omega
  have hmy : max (y : Int) 1 = (y : Int) := by omega
  go_enter Try.func20, Try.ntmps20
  go_wp2_with fail
  go_loop [7, 9] (fun d k => ∃ dn kn : Nat, d = .int .i64 dn ∧ k = .int .i64 kn ∧ dn ≤ 8589934592 ∧ kn + dn ≤ 8589934592 + 36 ∧ Hid (adP 0 y false = adN dn kn)) (fun d _ => (intOf d).toNat)
  case atStart => exact ⟨d1, 0, by first | rw [hw] | rw [E1] | (congr 1 <;> omega), rfl, m3, by omega, HT.out⟩
  case round =>
    obtain ⟨dn, kn, rfl, rfl, b1, b2, H⟩ := hrel
    clear hw HT m3
    by_cases hd : 455 < dn
    · have HN : Hid (adP 0 y false = adN (dn / 35) (kn + 36)) := by show _ = _; rw [H.out, adN_eq, if_pos hd]
      have c1 : (455 : Int) < (dn : Int) := by omega
      have c2 : kn + 36 + dn / 35 ≤ 8589934592 + 36 := by omega
      go_wp2_with fail
      go_round
      case rel => exact ⟨dn / 35, kn + 36, by first | rfl | (congr 1; omega), by go_num, by omega, c2, HN.out⟩
      case measure => simp [intOf]; omega
    · have HN : Hid (adP 0 y false = kn + 36 * dn / (dn + 38)) := by show _ = _; rw [H.out, adN_eq, if_neg hd]
      have c1 : ¬ (455 : Int) < (dn : Int) := by omega
      have c2 : ¬ ((dn : Int) + 38 = 0) := by omega
      obtain ⟨q, hq⟩ : ∃ q : Nat, 36 * dn / (dn + 38) = q := ⟨_, rfl⟩
      have c3 : q ≤ 36 := by rw [← hq]; exact Nat.div_le_of_le_mul (by omega)
      have e3 : 36 * (dn : Int) / ((dn : Int) + 38) = (q : Int) := by rw [← hq, Int.natCast_ediv]; rfl
      rw [hq] at HN
      clear hq
      go_wp2_with fail
      go_ret
      exact ⟨ret_int (by rw [HN.out]; omega), rfl⟩
set_option maxHeartbeats 4000000 in
theorem rada_f11 (x : Int) (hx : x < 0) (y : Int) (hy : y < 1) (w : World) :
    Calls Try.prog 20 #[.int .i64 x, .int .i64 y, .bool false] w fun e w' => e = .returned (.int .i64 (adP 0 1 false : Nat)) ∧ w' = w := by
  obtain ⟨d1, hd1⟩ : ∃ d1 : Nat, d1 = 0 := ⟨_, rfl⟩
  have HT : Hid (adP 0 1 false = adN d1 0) := by show _ = _; rw [hd1]; unfold adP; simp
  have m3 : d1 ≤ 8589934592 := by omega
  have hw : ((0 : Nat) : Int) = (d1 : Int) := by omega
  have q1 : ¬ 0 ≤ x := by omega
  have q2 : x ≤ 0 := by omega
  have q3 : ¬ 1 ≤ y := by omega
  have q4 : y ≤ 1 := by omega
  clear hd1
  have hmx : max (x : Int) 0 = 0 := by omega
  have hmy : max (y : Int) 1 = 1 := by omega
  go_enter Try.func20, Try.ntmps20
  go_wp2_with fail
  go_loop [7, 9] (fun d k => ∃ dn kn : Nat, d = .int .i64 dn ∧ k = .int .i64 kn ∧ dn ≤ 8589934592 ∧ kn + dn ≤ 8589934592 + 36 ∧ Hid (adP 0 1 false = adN dn kn)) (fun d _ => (intOf d).toNat)
  case atStart => exact ⟨d1, 0, by first | rw [hw] | rw [E1] | (congr 1 <;> omega), rfl, m3, by omega, HT.out⟩
  case round =>
    obtain ⟨dn, kn, rfl, rfl, b1, b2, H⟩ := hrel
    clear hw HT m3
    by_cases hd : 455 < dn
    · have HN : Hid (adP 0 1 false = adN (dn / 35) (kn + 36)) := by show _ = _; rw [H.out, adN_eq, if_pos hd]
      have c1 : (455 : Int) < (dn : Int) := by omega
      have c2 : kn + 36 + dn / 35 ≤ 8589934592 + 36 := by omega
      go_wp2_with fail
      go_round
      case rel => exact ⟨dn / 35, kn + 36, by first | rfl | (congr 1; omega), by go_num, by omega, c2, HN.out⟩
      case measure => simp [intOf]; omega
    · have HN : Hid (adP 0 1 false = kn + 36 * dn / (dn + 38)) := by show _ = _; rw [H.out, adN_eq, if_neg hd]
      have c1 : ¬ (455 : Int) < (dn : Int) := by omega
      have c2 : ¬ ((dn : Int) + 38 = 0) := by omega
      obtain ⟨q, hq⟩ : ∃ q : Nat, 36 * dn / (dn + 38) = q := ⟨_, rfl⟩
      have c3 : q ≤ 36 := by rw [← hq]; exact Nat.div_le_of_le_mul (by omega)
      have e3 : 36 * (dn : Int) / ((dn : Int) + 38) = (q : Int) := by rw [← hq, Int.natCast_ediv]; rfl
      rw [hq] at HN
      clear hq
      go_wp2_with fail
      go_ret
      exact ⟨ret_int (by rw [HN.out]; omega), rfl⟩
theorem rada_any (x y : Int) (f : Bool) (w : World) (hx : x ≤ 4294967296) (hy : y ≤ 4294967296) : Calls Try.prog 20 #[.int .i64 x, .int .i64 y, .bool f] w fun e w' => e = .returned (.int .i64 (adP x.toNat (if y < 1 then 1 else y.toNat) f : Nat)) ∧ w' = w := by
  by_cases h1 : x < 0
  · have e1 : x.toNat = 0 := by omega
    by_cases h2 : y < 1
    · rw [e1, if_pos h2]
      cases f
      · exact rada_f11 x h1 y h2 w
      · exact rada_t11 x h1 y h2 w
    · rw [e1, if_neg h2]
      obtain ⟨m, rfl⟩ : ∃ m : Nat, y = m := ⟨y.toNat, by omega⟩
      rw [Int.toNat_natCast]
      cases f
      · exact rada_f10 x h1 m (by omega) (by omega) w
      · exact rada_t10 x h1 m (by omega) (by omega) w
  · obtain ⟨n, rfl⟩ : ∃ n : Nat, x = n := ⟨x.toNat, by omega⟩
    rw [Int.toNat_natCast]
    by_cases h2 : y < 1
    · rw [if_pos h2]
      cases f
      · exact rada_f01 n (by omega) y h2 w
      · exact rada_t01 n (by omega) y h2 w
    · rw [if_neg h2]
      obtain ⟨m, rfl⟩ : ∃ m : Nat, y = m := ⟨y.toNat, by omega⟩
      rw [Int.toNat_natCast]
      cases f
      · exact rada_f00 n (by omega) m (by omega) (by omega) w
      · exact rada_t00 n (by omega) m (by omega) (by omega) w
end Pu
end Go.Proofs.Ytoknfhjclpdihaa
