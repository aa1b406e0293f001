import Derived.Test.YtoknfhjclpdihaaPu29
namespace Go.Proofs.Ytoknfhjclpdihaa
namespace Pu
open Go.RowKit Od

set_option maxHeartbeats 16000000 in
set_option maxRecDepth 100000 in
theorem dig3y (a0 a1 a2 a3 a4 a5 : Int) (a6 : Bool) (w : World) (b5 : 0 ≤ a5 ∧ a5 ≤ 255) (hv0 : 36 ≤ a0) (hx : 0 ≤ vlP a5) :
    Calls Try.prog 5 #[.int .i64 a0, .int .i64 a1, .int .i64 a2, .int .i64 a3, .int .i64 a4, .int .u8 a5, .bool a6] w fun e w' => e = .returned (.bool true) ∧ Below w.heap.size w w' := by
  have HAw := hid awake11_any
  have HV1 := hid (value_any a5 w b5.1 (by omega))
  have HV2 := hid (rvalue_any a5 w)
  have HT : Hid (-1099511627776 ≤ a1 ∧ a1 ≤ 1099511627776 → -1099511627776 ≤ a2 ∧ a2 ≤ 1099511627776 → Calls Try.prog 17 #[.int .i64 a1, .int .i64 a2] w fun e w' => e = .returned (.int .i64 (thP a1 a2)) ∧ w' = w) := fun h1 h2 => thr_any a1 a2 w h1 h2
  have HT2 : Hid (-1099511627776 ≤ a1 ∧ a1 ≤ 1099511627776 → -1099511627776 ≤ a2 ∧ a2 ≤ 1099511627776 → Calls Try.prog 18 #[.int .i64 a1, .int .i64 a2] w fun e w' => e = .returned (.int .i64 (thP a1 a2)) ∧ w' = w) := fun h1 h2 => rthr_any a1 a2 w h1 h2
  have HA1 : Hid (a3 ≤ 2147483648 → a4 ≤ 2147483648 → Calls Try.prog 19 #[.int .i64 a3, .int .i64 a4, .bool a6] w fun e w' => e = .returned (.int .i64 (adP a3.toNat (if a4 < 1 then 1 else a4.toNat) a6 : Nat)) ∧ w' = w) := fun h1 h2 => ada_any a3 a4 a6 w (by omega) (by omega)
  have HA2 : Hid (a3 ≤ 2147483648 → a4 ≤ 2147483648 → Calls Try.prog 20 #[.int .i64 a3, .int .i64 a4, .bool a6] w fun e w' => e = .returned (.int .i64 (adP a3.toNat (if a4 < 1 then 1 else a4.toNat) a6 : Nat)) ∧ w' = w) := fun h1 h2 => rada_any a3 a4 a6 w (by omega) (by omega)
  generalize thP a1 a2 = th at HT HT2
  generalize ((adP a3.toNat (if a4 < 1 then 1 else a4.toNat) a6 : Nat) : Int) = ad at HA1 HA2
  have hvV : vlV a5 = if vlP a5 < 0 then 0 else vlP a5 := rfl
  have hvB : vlB a5 = decide (0 ≤ vlP a5) := rfl
  rw [hvV, hvB] at HV1
  clear hvV hvB
  generalize vlP a5 = x at *
  have HD := hid (digit_no a0 w (by omega))
  have hv1 : 0 ≤ a0 := by omega
  go_enter Try.func5, Try.ntmps5
  go_wp2_with fail
  refine HD.out.mono ?_
  rintro e w' ⟨rfl, rfl⟩
  go_wp2_with fail
  rw [if_neg (by omega), decide_eq_true hx] at HV1
  refine HV1.out.mono ?_
  rintro e w' ⟨rfl, rfl⟩
  go_wp2_with fail
  refine HV2.out.mono ?_
  rintro e w' ⟨rfl, rfl⟩
  by_cases g0 : 1099511627776 < a1
  · -- 1099511627776 < a1
    go_wp2_with fail
    refine (HAw.out _).mono ?_
    rintro e w' ⟨rfl, hb'⟩
    have HB := hid hb'
    clear hb'
    go_wp2_with fail
    go_ret
    exact ⟨rfl, HB.out⟩
  · -- not
    by_cases g1 : a1 < -1099511627776
    · -- a1 < -1099511627776
      go_wp2_with fail
      refine (HAw.out _).mono ?_
      rintro e w' ⟨rfl, hb'⟩
      have HB := hid hb'
      clear hb'
      go_wp2_with fail
      go_ret
      exact ⟨rfl, HB.out⟩
    · -- not
      by_cases g2 : 1099511627776 < a2
      · -- 1099511627776 < a2
        go_wp2_with fail
        refine (HAw.out _).mono ?_
        rintro e w' ⟨rfl, hb'⟩
        have HB := hid hb'
        clear hb'
        go_wp2_with fail
        go_ret
        exact ⟨rfl, HB.out⟩
      · -- not
        by_cases g3 : a2 < -1099511627776
        · -- a2 < -1099511627776
          go_wp2_with fail
          refine (HAw.out _).mono ?_
          rintro e w' ⟨rfl, hb'⟩
          have HB := hid hb'
          clear hb'
          go_wp2_with fail
          go_ret
          exact ⟨rfl, HB.out⟩
        · -- not
          by_cases g4 : 2147483648 < a3
          · -- 2147483648 < a3
            go_wp2_with fail
            refine (HAw.out _).mono ?_
            rintro e w' ⟨rfl, hb'⟩
            have HB := hid hb'
            clear hb'
            go_wp2_with fail
            go_ret
            exact ⟨rfl, HB.out⟩
          · -- not
            by_cases g5 : 2147483648 < a4
            · -- 2147483648 < a4
              go_wp2_with fail
              refine (HAw.out _).mono ?_
              rintro e w' ⟨rfl, hb'⟩
              have HB := hid hb'
              clear hb'
              go_wp2_with fail
              go_ret
              exact ⟨rfl, HB.out⟩
            · -- not
              go_wp2_with fail
              refine (HT.out (by omega) (by omega)).mono ?_
              rintro e w' ⟨rfl, rfl⟩
              go_wp2_with fail
              refine (HT2.out (by omega) (by omega)).mono ?_
              rintro e w' ⟨rfl, rfl⟩
              go_wp2_with fail
              refine (HA1.out (by omega) (by omega)).mono ?_
              rintro e w' ⟨rfl, rfl⟩
              go_wp2_with fail
              refine (HA2.out (by omega) (by omega)).mono ?_
              rintro e w' ⟨rfl, rfl⟩
              go_wp2_with fail
              refine (HAw.out _).mono ?_
              rintro e w' ⟨rfl, hb'⟩
              have HB := hid hb'
              clear hb'
              go_wp2_with fail
              go_ret
              exact ⟨rfl, HB.out⟩
set_option maxHeartbeats 16000000 in
set_option maxRecDepth 100000 in
theorem dig3n (a0 a1 a2 a3 a4 a5 : Int) (a6 : Bool) (w : World) (b5 : 0 ≤ a5 ∧ a5 ≤ 255) (hv0 : 36 ≤ a0) (hx : vlP a5 < 0) :
    Calls Try.prog 5 #[.int .i64 a0, .int .i64 a1, .int .i64 a2, .int .i64 a3, .int .i64 a4, .int .u8 a5, .bool a6] w fun e w' => e = .returned (.bool true) ∧ Below w.heap.size w w' := by
  have HAw := hid awake11_any
  have HV1 := hid (value_any a5 w b5.1 (by omega))
  have HV2 := hid (rvalue_any a5 w)
  have HT : Hid (-1099511627776 ≤ a1 ∧ a1 ≤ 1099511627776 → -1099511627776 ≤ a2 ∧ a2 ≤ 1099511627776 → Calls Try.prog 17 #[.int .i64 a1, .int .i64 a2] w fun e w' => e = .returned (.int .i64 (thP a1 a2)) ∧ w' = w) := fun h1 h2 => thr_any a1 a2 w h1 h2
  have HT2 : Hid (-1099511627776 ≤ a1 ∧ a1 ≤ 1099511627776 → -1099511627776 ≤ a2 ∧ a2 ≤ 1099511627776 → Calls Try.prog 18 #[.int .i64 a1, .int .i64 a2] w fun e w' => e = .returned (.int .i64 (thP a1 a2)) ∧ w' = w) := fun h1 h2 => rthr_any a1 a2 w h1 h2
  have HA1 : Hid (a3 ≤ 2147483648 → a4 ≤ 2147483648 → Calls Try.prog 19 #[.int .i64 a3, .int .i64 a4, .bool a6] w fun e w' => e = .returned (.int .i64 (adP a3.toNat (if a4 < 1 then 1 else a4.toNat) a6 : Nat)) ∧ w' = w) := fun h1 h2 => ada_any a3 a4 a6 w (by omega) (by omega)
  have HA2 : Hid (a3 ≤ 2147483648 → a4 ≤ 2147483648 → Calls Try.prog 20 #[.int .i64 a3, .int .i64 a4, .bool a6] w fun e w' => e = .returned (.int .i64 (adP a3.toNat (if a4 < 1 then 1 else a4.toNat) a6 : Nat)) ∧ w' = w) := fun h1 h2 => rada_any a3 a4 a6 w (by omega) (by omega)
  generalize thP a1 a2 = th at HT HT2
  generalize ((adP a3.toNat (if a4 < 1 then 1 else a4.toNat) a6 : Nat) : Int) = ad at HA1 HA2
  have hvV : vlV a5 = if vlP a5 < 0 then 0 else vlP a5 := rfl
  have hvB : vlB a5 = decide (0 ≤ vlP a5) := rfl
  rw [hvV, hvB] at HV1
  clear hvV hvB
  generalize vlP a5 = x at *
  have HD := hid (digit_no a0 w (by omega))
  have hv1 : 0 ≤ a0 := by omega
  go_enter Try.func5, Try.ntmps5
  go_wp2_with fail
  refine HD.out.mono ?_
  rintro e w' ⟨rfl, rfl⟩
  go_wp2_with fail
  rw [if_pos (by omega), decide_eq_false (by omega)] at HV1
  refine HV1.out.mono ?_
  rintro e w' ⟨rfl, rfl⟩
  go_wp2_with fail
  refine HV2.out.mono ?_
  rintro e w' ⟨rfl, rfl⟩
  have hx2 : ¬ 0 ≤ x := by omega
  by_cases g0 : 1099511627776 < a1
  · -- 1099511627776 < a1
    go_wp2_with fail
    refine (HAw.out _).mono ?_
    rintro e w' ⟨rfl, hb'⟩
    have HB := hid hb'
    clear hb'
    go_wp2_with fail
    go_ret
    exact ⟨rfl, HB.out⟩
  · -- not
    by_cases g1 : a1 < -1099511627776
    · -- a1 < -1099511627776
      go_wp2_with fail
      refine (HAw.out _).mono ?_
      rintro e w' ⟨rfl, hb'⟩
      have HB := hid hb'
      clear hb'
      go_wp2_with fail
      go_ret
      exact ⟨rfl, HB.out⟩
    · -- not
      by_cases g2 : 1099511627776 < a2
      · -- 1099511627776 < a2
        go_wp2_with fail
        refine (HAw.out _).mono ?_
        rintro e w' ⟨rfl, hb'⟩
        have HB := hid hb'
        clear hb'
        go_wp2_with fail
        go_ret
        exact ⟨rfl, HB.out⟩
      · -- not
        by_cases g3 : a2 < -1099511627776
        · -- a2 < -1099511627776
          go_wp2_with fail
          refine (HAw.out _).mono ?_
          rintro e w' ⟨rfl, hb'⟩
          have HB := hid hb'
          clear hb'
          go_wp2_with fail
          go_ret
          exact ⟨rfl, HB.out⟩
        · -- not
          by_cases g4 : 2147483648 < a3
          · -- 2147483648 < a3
            go_wp2_with fail
            refine (HAw.out _).mono ?_
            rintro e w' ⟨rfl, hb'⟩
            have HB := hid hb'
            clear hb'
            go_wp2_with fail
            go_ret
            exact ⟨rfl, HB.out⟩
          · -- not
            by_cases g5 : 2147483648 < a4
            · -- 2147483648 < a4
              go_wp2_with fail
              refine (HAw.out _).mono ?_
              rintro e w' ⟨rfl, hb'⟩
              have HB := hid hb'
              clear hb'
              go_wp2_with fail
              go_ret
              exact ⟨rfl, HB.out⟩
            · -- not
              go_wp2_with fail
              refine (HT.out (by omega) (by omega)).mono ?_
              rintro e w' ⟨rfl, rfl⟩
              go_wp2_with fail
              refine (HT2.out (by omega) (by omega)).mono ?_
              rintro e w' ⟨rfl, rfl⟩
              go_wp2_with fail
              refine (HA1.out (by omega) (by omega)).mono ?_
              rintro e w' ⟨rfl, rfl⟩
              go_wp2_with fail
              refine (HA2.out (by omega) (by omega)).mono ?_
              rintro e w' ⟨rfl, rfl⟩
              go_wp2_with fail
              refine (HAw.out _).mono ?_
              rintro e w' ⟨rfl, hb'⟩
              have HB := hid hb'
              clear hb'
              go_wp2_with fail
              go_ret
              exact ⟨rfl, HB.out⟩
end Pu
end Go.Proofs.Ytoknfhjclpdihaa
