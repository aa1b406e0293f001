import Derived.Test.YteimhepmcjdbpaaGreatDoorEsc1
namespace Go.Proofs.YteimhepmcjdbpaaGreatDoor
open Go.RowKit
namespace Le

def wiB (a b r : Int) : Bool := decide (a ≤ r ∧ r ≤ b)

theorem wi_any (r a b : Int) (w : World) :
    Calls Tryz.prog 120 #[.int .i32 r, .int .i32 a, .int .i32 b] w fun e w' => e = .returned (.bool (wiB a b r)) ∧ w' = w := by
  by_cases h1 : a ≤ r
  · by_cases h2 : r ≤ b
    · go_enter Tryz.func120, Tryz.ntmps120
      go_wp2
      go_ret
      exact ⟨ret_bool (dt ⟨h1, h2⟩), rfl⟩
    · go_enter Tryz.func120, Tryz.ntmps120
      go_wp2
      go_ret
      exact ⟨ret_bool (df (by omega)), rfl⟩
  · go_enter Tryz.func120, Tryz.ntmps120
    go_wp2
    go_ret
    exact ⟨ret_bool (df (by omega)), rfl⟩

/-- The low sixteen bits. -/
def loI (r : Int) : Int := bits .and .i32 r 65535

theorem loI_is (r : Int) (h0 : 0 ≤ r) (h1 : r ≤ 2147483647) : loI r = r % 65536 := by
  obtain ⟨n, rfl⟩ := Int.eq_ofNat_of_zero_le h0
  have h1' : (BitVec.ofInt 32 (n : Int)).toNat = n := by
    rw [BitVec.ofInt_natCast, BitVec.toNat_ofNat]; exact Nat.mod_eq_of_lt (by omega)
  have h2 : (BitVec.ofInt 32 (65535 : Int)).toNat = 65535 := by decide
  show IntKind.i32.wrap ((BitVec.ofInt 32 (n : Int) &&& BitVec.ofInt 32 (65535 : Int)).toNat : Int) = _
  rw [BitVec.toNat_and, h1', h2, Nat.and_two_pow_sub_one_eq_mod n 16, IntKind.wrap_i32]
  omega

/-- Is it a code point of an IRI? -/
def cmB (r : Int) : Bool := if r ≤ 65535 then wiB 160 55295 r || wiB 63744 64975 r || wiB 65008 65519 r else if r ≤ 917503 then decide (loI r ≤ 65533) else wiB 921600 983037 r
def pvB (r : Int) : Bool := wiB 57344 63743 r || wiB 983040 1048573 r || wiB 1048576 1114109 r
def diB (r : Int) : Bool := wiB 8206 8207 r || wiB 8234 8238 r

theorem cm_any (r : Int) (w : World) :
    Calls Tryz.prog 108 #[.int .i32 r] w fun e w' => e = .returned (.bool (cmB r)) ∧ w' = w := by
  by_cases h1 : r ≤ 65535
  · have H : Hid (cmB r = (wiB 160 55295 r || wiB 63744 64975 r || wiB 65008 65519 r)) := by show _ = _; unfold cmB; rw [if_pos h1]
    cases k1 : wiB 160 55295 r <;> cases k2 : wiB 63744 64975 r <;> cases k3 : wiB 65008 65519 r
    all_goals
      go_enter Tryz.func108, Tryz.ntmps108
      go_wp2_with (go_at_call 120; refine (wi_any _ _ _ _).mono ?_; rintro e w' ⟨rfl, rfl⟩)
      go_ret
      exact ⟨ret_bool (by rw [H.out, k1, k2, k3]; try rfl), rfl⟩
  · by_cases h2 : r ≤ 917503
    · have H : Hid (cmB r = decide (loI r ≤ 65533)) := by show _ = _; unfold cmB; rw [if_neg h1, if_pos h2]
      unfold loI at H
      go_enter Tryz.func108, Tryz.ntmps108
      go_wp2_with fail
      go_ret
      exact ⟨ret_bool H.out.symm, rfl⟩
    · have H : Hid (cmB r = wiB 921600 983037 r) := by show _ = _; unfold cmB; rw [if_neg h1, if_neg h2]
      go_enter Tryz.func108, Tryz.ntmps108
      go_wp2_with (go_at_call 120; refine (wi_any _ _ _ _).mono ?_; rintro e w' ⟨rfl, rfl⟩)
      go_ret
      exact ⟨ret_bool H.out.symm, rfl⟩

theorem pv_any (r : Int) (w : World) :
    Calls Tryz.prog 109 #[.int .i32 r] w fun e w' => e = .returned (.bool (pvB r)) ∧ w' = w := by
  have H : Hid (pvB r = (wiB 57344 63743 r || wiB 983040 1048573 r || wiB 1048576 1114109 r)) := rfl
  cases k1 : wiB 57344 63743 r <;> cases k2 : wiB 983040 1048573 r <;> cases k3 : wiB 1048576 1114109 r
  all_goals
    go_enter Tryz.func109, Tryz.ntmps109
    go_wp2_with (go_at_call 120; refine (wi_any _ _ _ _).mono ?_; rintro e w' ⟨rfl, rfl⟩)
    go_ret
    exact ⟨ret_bool (by rw [H.out, k1, k2, k3]; try rfl), rfl⟩


/-- Is there such a place? -/
def plcB (p : Int) : Bool := decide (1 ≤ p ∧ p ≤ 7)

theorem plc_any (p : Int) (w : World) :
    Calls Tryz.prog 63 #[.int .i64 p] w fun e w' => e = .returned (.bool (plcB p)) ∧ w' = w := by
  by_cases h1 : 1 ≤ p
  · by_cases h2 : p ≤ 7
    · go_enter Tryz.func63, Tryz.ntmps63
      go_wp2
      go_ret
      exact ⟨ret_bool (dt ⟨h1, h2⟩), rfl⟩
    · go_enter Tryz.func63, Tryz.ntmps63
      go_wp2
      go_ret
      exact ⟨ret_bool (df (by omega)), rfl⟩
  · go_enter Tryz.func63, Tryz.ntmps63
    go_wp2
    go_ret
    exact ⟨ret_bool (df (by omega)), rfl⟩

theorem plc_ways (p : Int) (h : plcB p = true) : p = 1 ∨ p = 2 ∨ p = 3 ∨ p = 4 ∨ p = 5 ∨ p = 6 ∨ p = 7 := by
  have := of_decide_eq_true h; omega

/-- The bytes that may stand at a place beside others. -/
def otL (p : Int) : List UInt8 := if p = 1 then [58] else if p = 3 then [58, 64] else if p = 4 then [64] else if p = 5 then [58, 64, 47] else if p = 6 then [58, 64, 47, 63] else if p = 7 then [58, 64, 47, 63] else []

theorem ot_any (p : Int) (w : World) (h : plcB p = true) :
    Calls Tryz.prog 65 #[.int .i64 p] w fun e w' => e = .returned (.string ⟨(otL p).toArray⟩) ∧ w' = w := by
  rcases plc_ways p h with rfl | rfl | rfl | rfl | rfl | rfl | rfl
  all_goals
    clear h
    go_enter Tryz.func65, Tryz.ntmps65
    go_wp2
    go_ret
    exact ⟨rfl, rfl⟩

/-- May a byte stand at a place? -/
def plB (p b : Int) : Bool := plcB p && (isB b 15 || inB b (otL p))

theorem pl_any (p b : Int) (w : World) (h0 : 0 ≤ b) (h1 : b ≤ 255) :
    Calls Tryz.prog 48 #[.int .i64 p, .int .u8 b] w fun e w' => e = .returned (.bool (plB p b)) ∧ w' = w := by
  cases k1 : plcB p
  · have H : Hid (plB p b = false) := by show _ = _; unfold plB; rw [k1]; rfl
    go_enter Tryz.func48, Tryz.ntmps48
    go_wp2_with (go_at_call 63; refine (plc_any _ _).mono ?_; rintro e w' ⟨rfl, rfl⟩)
    go_ret
    exact ⟨ret_bool H.out.symm, rfl⟩
  · have HP := hid k1
    cases k2 : isB b 15
    · have H : Hid (decide (0 ≤ ixI b (otL p)) = plB p b) := by
        show _ = _; unfold plB; rw [k1, k2]
        have := ixI_in b (otL p) h0 h1
        by_cases hx : 0 ≤ ixI b (otL p)
        · rw [decide_eq_true hx, this.1 hx]; rfl
        · rw [decide_eq_false hx]; cases h : inB b (otL p)
          · rfl
          · exact absurd (this.2 h) hx
      have HO := hid (fun w => ot_any p w k1)
      generalize plB p b = v at *
      go_enter Tryz.func48, Tryz.ntmps48
      go_wp2_with (first | (go_at_call 63; refine (plc_any _ _).mono ?_; rintro e w' ⟨rfl, rfl⟩) | (go_at_call 47; refine (is_any _ _ _).mono ?_; rintro e w' ⟨rfl, rfl⟩) | (go_at_call 65; refine (HO.out _).mono ?_; rintro e w' ⟨rfl, rfl⟩) | (go_at_call 64; refine (idx_any _ _ _).mono ?_; rintro e w' ⟨rfl, rfl⟩))
      go_ret
      exact ⟨ret_bool H.out, rfl⟩
    · have H : Hid (plB p b = true) := by show _ = _; unfold plB; rw [k1, k2]; rfl
      go_enter Tryz.func48, Tryz.ntmps48
      go_wp2_with (first | (go_at_call 63; refine (plc_any _ _).mono ?_; rintro e w' ⟨rfl, rfl⟩) | (go_at_call 47; refine (is_any _ _ _).mono ?_; rintro e w' ⟨rfl, rfl⟩))
      go_ret
      exact ⟨ret_bool H.out.symm, rfl⟩

/-- May a code point stand at a place? -/
def maB (p : Int) (iri : Bool) (r : Int) : Bool := if r < 0 then false else if r < 128 then plB p r else iri && plcB p && (cmB r || (decide (p = 6) && pvB r))

theorem ma_any (p : Int) (iri : Bool) (r : Int) (w : World) :
    Calls Tryz.prog 89 #[.int .i64 p, .bool iri, .int .i32 r] w fun e w' => e = .returned (.bool (maB p iri r)) ∧ w' = w := by
  by_cases h0 : r < 0
  · have H : Hid (maB p iri r = false) := by show _ = _; unfold maB; rw [if_pos h0]
    go_enter Tryz.func89, Tryz.ntmps89
    go_wp2
    go_ret
    exact ⟨ret_bool H.out.symm, rfl⟩
  by_cases h1 : r < 128
  · have H : Hid (maB p iri r = plB p r) := by show _ = _; unfold maB; rw [if_neg h0, if_pos h1]
    have HP := hid (fun w => pl_any p r w (by omega) (by omega))
    have e1 : r % 256 = r := by omega
    generalize plB p r = v at *
    go_enter Tryz.func89, Tryz.ntmps89
    go_wp2_with (first | (go_at_call 48; refine (HP.out _).mono ?_; rintro e w' ⟨rfl, rfl⟩))
    go_ret
    exact ⟨ret_bool H.out.symm, rfl⟩
  have H : Hid (maB p iri r = (iri && plcB p && (cmB r || (decide (p = 6) && pvB r)))) := by show _ = _; unfold maB; rw [if_neg h0, if_neg h1]
  cases iri
  · go_enter Tryz.func89, Tryz.ntmps89
    go_wp2
    go_ret
    exact ⟨ret_bool H.out.symm, rfl⟩
  cases k1 : plcB p
  · go_enter Tryz.func89, Tryz.ntmps89
    go_wp2_with (first | (go_at_call 63; refine (plc_any _ _).mono ?_; rintro e w' ⟨rfl, rfl⟩))
    go_ret
    exact ⟨ret_bool (by rw [H.out, k1]; rfl), rfl⟩
  cases k2 : cmB r
  · by_cases h6 : p = 6
    · subst h6
      go_enter Tryz.func89, Tryz.ntmps89
      go_wp2_with (first | (go_at_call 63; refine (plc_any _ _).mono ?_; rintro e w' ⟨rfl, rfl⟩) | (go_at_call 108; refine (cm_any _ _).mono ?_; rintro e w' ⟨rfl, rfl⟩) | (go_at_call 109; refine (pv_any _ _).mono ?_; rintro e w' ⟨rfl, rfl⟩))
      go_ret
      exact ⟨ret_bool (by rw [H.out, k1, k2]; rfl), rfl⟩
    · have h6' : (p == 6) = false := by simpa using h6
      have hd : decide (p = 6) = false := decide_eq_false h6
      go_enter Tryz.func89, Tryz.ntmps89
      go_wp2_with (first | (go_at_call 63; refine (plc_any _ _).mono ?_; rintro e w' ⟨rfl, rfl⟩) | (go_at_call 108; refine (cm_any _ _).mono ?_; rintro e w' ⟨rfl, rfl⟩))
      go_ret
      exact ⟨ret_bool (by rw [H.out, k1, k2, hd]; rfl), rfl⟩
  · go_enter Tryz.func89, Tryz.ntmps89
    go_wp2_with (first | (go_at_call 63; refine (plc_any _ _).mono ?_; rintro e w' ⟨rfl, rfl⟩) | (go_at_call 108; refine (cm_any _ _).mono ?_; rintro e w' ⟨rfl, rfl⟩))
    go_ret
    exact ⟨ret_bool (by rw [H.out, k1, k2]; rfl), rfl⟩
end Le
end Go.Proofs.YteimhepmcjdbpaaGreatDoor
