import Derived.Test.YtoknfhjclpdihaaPu1
namespace Go.Proofs.Ytoknfhjclpdihaa
namespace Pu
open Go.RowKit

/-- The bias behind a delta: as long as it is above 455. -/
def adF : Nat → Nat → Nat → Nat
  | 0, d, k => k + 36 * d / (d + 38)
  | n + 1, d, k => if 455 < d then adF n (d / 35) (k + 36) else k + 36 * d / (d + 38)
def adN (d k : Nat) : Nat := adF d d k
theorem adF_eq : ∀ (n m d k : Nat), d ≤ n → d ≤ m → adF n d k = adF m d k
  | 0, 0, _, _, _, _ => rfl
  | 0, m + 1, d, k, h, _ => by
    simp only [adF]
    rw [if_neg (by omega)]
  | n + 1, 0, d, k, _, h => by
    simp only [adF]
    rw [if_neg (by omega)]
  | n + 1, m + 1, d, k, h1, h2 => by
    simp only [adF]
    split
    · exact adF_eq n m _ _ (by omega) (by omega)
    · rfl
theorem adN_eq (d k : Nat) : adN d k = if 455 < d then adN (d / 35) (k + 36) else k + 36 * d / (d + 38) := by
  unfold adN
  cases d with
  | zero => rfl
  | succ d =>
    rw [show adF (d + 1) (d + 1) k = if 455 < d + 1 then adF d ((d + 1) / 35) (k + 36) else k + 36 * (d + 1) / (d + 1 + 38) from rfl]
    split
    · exact adF_eq _ _ _ _ (by omega) (Nat.le_refl _)
    · rfl
/-- To adapt. -/
def adP (delta count : Nat) (first : Bool) : Nat :=
  let d := if first = true then delta / 700 else delta / 2
  adN (d + d / count) 0
theorem adN_le : ∀ (n d k : Nat), d ≤ n → adN d k ≤ k + d + 36
  | 0, d, k, h => by
    rw [adN_eq, if_neg (by omega)]
    have : d = 0 := by omega
    subst this; simp
  | n + 1, d, k, h => by
    rw [adN_eq]
    split
    · have := adN_le n (d / 35) (k + 36) (by omega)
      omega
    · have : 36 * d / (d + 38) ≤ 36 := by
        apply Nat.div_le_of_le_mul
        omega
      omega

/-- The loop, of either. -/
def adOf (delta count : Int) : Nat × Nat := ((if delta < 0 then 0 else delta).toNat, (if count < 1 then 1 else count).toNat)
def adI (delta count : Int) (first : Bool) : Int := (adP (adOf delta count).1 (adOf delta count).2 first : Nat)

set_option maxHeartbeats 4000000 in
theorem adapt_t (delta count : Nat) (w : World) (h1 : delta ≤ 4294967296) (h2 : 1 ≤ count) (h3 : count ≤ 4294967296) :
    Calls Try.prog 19 #[.int .i64 delta, .int .i64 count, .bool true] w fun e w' => e = .returned (.int .i64 (adP delta count true : Nat)) ∧ w' = w := by
  obtain ⟨d1, hd1⟩ : ∃ d1 : Nat, d1 = delta / 700 + delta / 700 / count := ⟨_, rfl⟩
  have HT : Hid (adP delta count true = adN d1 0) := by show _ = _; rw [hd1]; rfl
  have m2 : delta / 700 / count ≤ delta / 700 := Nat.div_le_self _ _
  have m3 : d1 ≤ 8589934592 := by omega
  have e1 : (delta : Int) / 700 + (delta : Int) / 700 / (count : Int) = (d1 : Int) := by rw [hd1, Int.natCast_add, Int.natCast_ediv, Int.natCast_ediv]; rfl
  have hw : wrap64 ((delta : Int) / 700 + (delta : Int) / 700 / (count : Int)) = (d1 : Int) := by rw [e1]; unfold wrap64; omega
  clear e1 hd1 m2
  go_enter Try.func19, Try.ntmps19
  go_wp2_with fail
  go_loop [0, 7] (fun d k => ∃ dn kn : Nat, d = .int .i64 dn ∧ k = .int .i64 kn ∧ dn ≤ 8589934592 ∧ kn + dn ≤ 8589934592 + 36 ∧ Hid (adP delta count true = adN dn kn)) (fun d _ => (intOf d).toNat)
  case atStart => exact ⟨d1, 0, by rw [hw], rfl, m3, by omega, HT.out⟩
  case round =>
    obtain ⟨dn, kn, rfl, rfl, b1, b2, H⟩ := hrel
    clear hw HT m3
    by_cases hd : 455 < dn
    · have HN : Hid (adP delta count true = adN (dn / 35) (kn + 36)) := by show _ = _; rw [H.out, adN_eq, if_pos hd]
      have c1 : (455 : Int) < (dn : Int) := by omega
      have c2 : kn + 36 + dn / 35 ≤ 8589934592 + 36 := by omega
      go_wp2_with fail
      go_round
      case rel => exact ⟨dn / 35, kn + 36, by first | rfl | (congr 1; omega), by go_num, by omega, c2, HN.out⟩
      case measure => simp [intOf]; omega
    · have HN : Hid (adP delta count true = kn + 36 * dn / (dn + 38)) := by show _ = _; rw [H.out, adN_eq, if_neg hd]
      have c1 : ¬ (455 : Int) < (dn : Int) := by omega
      have c2 : ¬ ((dn : Int) + 38 = 0) := by omega
      obtain ⟨q, hq⟩ : ∃ q : Nat, 36 * dn / (dn + 38) = q := ⟨_, rfl⟩
      have c3 : q ≤ 36 := by rw [← hq]; exact Nat.div_le_of_le_mul (by omega)
      have e3 : 36 * (dn : Int) / ((dn : Int) + 38) = (q : Int) := by rw [← hq, Int.natCast_ediv]; rfl
      rw [hq] at HN
      clear hq
      go_wp2_with fail
      go_ret
      exact ⟨ret_int (by rw [HN.out]; omega), rfl⟩
set_option maxHeartbeats 4000000 in
theorem adapt_f (delta count : Nat) (w : World) (h1 : delta ≤ 4294967296) (h2 : 1 ≤ count) (h3 : count ≤ 4294967296) :
    Calls Try.prog 19 #[.int .i64 delta, .int .i64 count, .bool false] w fun e w' => e = .returned (.int .i64 (adP delta count false : Nat)) ∧ w' = w := by
  obtain ⟨d1, hd1⟩ : ∃ d1 : Nat, d1 = delta / 2 + delta / 2 / count := ⟨_, rfl⟩
  have HT : Hid (adP delta count false = adN d1 0) := by show _ = _; rw [hd1]; rfl
  have m2 : delta / 2 / count ≤ delta / 2 := Nat.div_le_self _ _
  have m3 : d1 ≤ 8589934592 := by omega
  have e1 : (delta : Int) / 2 + (delta : Int) / 2 / (count : Int) = (d1 : Int) := by rw [hd1, Int.natCast_add, Int.natCast_ediv, Int.natCast_ediv]; rfl
  have hw : wrap64 ((delta : Int) / 2 + (delta : Int) / 2 / (count : Int)) = (d1 : Int) := by rw [e1]; unfold wrap64; omega
  clear e1 hd1 m2
  go_enter Try.func19, Try.ntmps19
  go_wp2_with fail
  go_loop [0, 7] (fun d k => ∃ dn kn : Nat, d = .int .i64 dn ∧ k = .int .i64 kn ∧ dn ≤ 8589934592 ∧ kn + dn ≤ 8589934592 + 36 ∧ Hid (adP delta count false = adN dn kn)) (fun d _ => (intOf d).toNat)
  case atStart => exact ⟨d1, 0, by rw [hw], rfl, m3, by omega, HT.out⟩
  case round =>
    obtain ⟨dn, kn, rfl, rfl, b1, b2, H⟩ := hrel
    clear hw HT m3
    by_cases hd : 455 < dn
    · have HN : Hid (adP delta count false = adN (dn / 35) (kn + 36)) := by show _ = _; rw [H.out, adN_eq, if_pos hd]
      have c1 : (455 : Int) < (dn : Int) := by omega
      have c2 : kn + 36 + dn / 35 ≤ 8589934592 + 36 := by omega
      go_wp2_with fail
      go_round
      case rel => exact ⟨dn / 35, kn + 36, by first | rfl | (congr 1; omega), by go_num, by omega, c2, HN.out⟩
      case measure => simp [intOf]; omega
    · have HN : Hid (adP delta count false = kn + 36 * dn / (dn + 38)) := by show _ = _; rw [H.out, adN_eq, if_neg hd]
      have c1 : ¬ (455 : Int) < (dn : Int) := by omega
      have c2 : ¬ ((dn : Int) + 38 = 0) := by omega
      obtain ⟨q, hq⟩ : ∃ q : Nat, 36 * dn / (dn + 38) = q := ⟨_, rfl⟩
      have c3 : q ≤ 36 := by rw [← hq]; exact Nat.div_le_of_le_mul (by omega)
      have e3 : 36 * (dn : Int) / ((dn : Int) + 38) = (q : Int) := by rw [← hq, Int.natCast_ediv]; rfl
      rw [hq] at HN
      clear hq
      go_wp2_with fail
      go_ret
      exact ⟨ret_int (by rw [HN.out]; omega), rfl⟩
end Pu
end Go.Proofs.Ytoknfhjclpdihaa
