import Derived.Test.YtoknfhjclpdihaaPu13
namespace Go.Proofs.Ytoknfhjclpdihaa
namespace Pu
open Go.RowKit Od

/-- The digits, by their values. -/
def dgs : ByteArray := ⟨#[97, 98, 99, 100, 101, 102, 103, 104, 105, 106, 107, 108, 109, 110, 111, 112, 113, 114, 115, 116, 117, 118, 119, 120, 121, 122, 48, 49, 50, 51, 52, 53, 54, 55, 56, 57]⟩
theorem dgs_ck : (List.range 36).all (fun i => ((dgs.data.getD i 0).toNat : Int) == dgP i) = true := by kernel_rfl
theorem dgs_at (i : Nat) (h : i < 36) (hi : i < dgs.size) : ((dgs[i]).toNat : Int) = dgP i := by
  have := List.all_eq_true.1 dgs_ck i (List.mem_range.2 h)
  have e : dgs.data.getD i 0 = dgs[i] := by
    have hn' : i < dgs.data.size := hi
    rw [Array.getD_eq_getD_getElem?, Array.getElem?_eq_getElem hn']; rfl
  rw [e] at this
  simpa using this
theorem dg_bd (v : Int) (h0 : 0 ≤ v) (h1 : v < 36) : 48 ≤ dgP v ∧ dgP v ≤ 122 := by
  unfold dgP
  split <;> omega
theorem vl_dg (b : Int) (i : Nat) (h : i < 36) (e : dgP i = b) : vlP b = i := by
  unfold dgP at e
  unfold vlP
  split at e
  · rw [if_pos (by omega)]; omega
  · rw [if_neg (by omega), if_neg (by omega), if_pos (by omega)]; omega
theorem vl_up (b : Int) (i : Nat) (h : i < 26) (e : b = dgP i - 32) : vlP b = i := by
  unfold dgP at e
  unfold vlP
  rw [if_pos (by omega)] at e
  rw [if_neg (by omega), if_pos (by omega)]; omega
theorem vl_no (b : Int) (h : ∀ i : Nat, i < 36 → dgP i ≠ b ∧ ¬ (i < 26 ∧ b = dgP i - 32)) : vlP b = -1 := by
  unfold vlP
  split
  · rename_i c
    have := (h (b - 97).toNat (by omega)).1
    unfold dgP at this
    rw [if_pos (by omega)] at this
    omega
  · split
    · rename_i c
      have := (h (b - 65).toNat (by omega)).2
      unfold dgP at this
      rw [if_pos (by omega)] at this
      omega
    · split
      · rename_i c
        have := (h (b - 22).toNat (by omega)).1
        unfold dgP at this
        rw [if_neg (by omega)] at this
        omega
      · rfl

set_option maxRecDepth 100000 in
set_option maxHeartbeats 2000000 in
theorem rvalue_any (b : Int) (w : World) : Calls Try.prog 15 #[.int .u8 b] w fun e w' => e = .returned (.int .i64 (vlP b)) ∧ w' = w := by
  have HDg := hid (fun i (h : i < 36) => dgs_at i h (by show i < 36; exact h))
  go_enter Try.func15, Try.ntmps15
  go_wp2_with fail
  go_loop [3] (fun vi => ∃ i : Nat, vi = .int .i64 i ∧ i ≤ 36 ∧ Hid (∀ j : Nat, j < i → dgP j ≠ b ∧ ¬ (j < 26 ∧ b = dgP j - 32))) (fun vi => 36 - (intOf vi).toNat)
  case atStart => exact ⟨0, rfl, by omega, fun j h => by omega⟩
  case round =>
    obtain ⟨i, rfl, hi, H⟩ := hrel
    by_cases hlt : i < 36
    · have z1 : (i : Int) < 36 := by omega
      have hd : (((({ data := #[97, 98, 99, 100, 101, 102, 103, 104, 105, 106, 107, 108, 109, 110, 111, 112, 113, 114, 115, 116, 117, 118, 119, 120, 121, 122, 48, 49, 50, 51, 52, 53, 54, 55, 56, 57] } : ByteArray)[i]'(by show i < 36; exact hlt)).toNat : Nat) : Int) = dgP i := HDg.out i hlt
      have hb := dg_bd (i : Int) (by omega) z1
      by_cases e1 : dgP i = b
      · have HR := hid (vl_dg b i hlt e1)
        have e2 : (dgP (i : Int) == b) = true := by simpa using e1
        clear e1
        go_wp2_with fail
        go_ret
        exact ⟨ret_int HR.out.symm, rfl⟩
      · have e2 : (dgP (i : Int) == b) = false := by simpa using e1
        by_cases e3 : i < 26
        · have z2 : (i : Int) < 26 := by omega
          have q1 : IntKind.u8.wrap (dgP (i : Int) - 32) = dgP (i : Int) - 32 := by rw [IntKind.wrap_u8]; omega
          by_cases e4 : b = dgP i - 32
          · have HR := hid (vl_up b i e3 e4)
            have e5 : (b == dgP (i : Int) - 32) = true := by simpa using e4
            clear e4
            go_wp2_with fail
            go_ret
            exact ⟨ret_int HR.out.symm, rfl⟩
          · have e5 : (b == dgP (i : Int) - 32) = false := by simpa using e4
            have HN : Hid (∀ j : Nat, j < i + 1 → dgP j ≠ b ∧ ¬ (j < 26 ∧ b = dgP j - 32)) := fun j hj => by
              by_cases e : j = i
              · subst e; exact ⟨e1, fun h => e4 h.2⟩
              · exact H.out j (by omega)
            go_wp2_with fail
            go_round
            case rel => exact ⟨i + 1, by go_num, by omega, HN.out⟩
            case measure => simp [intOf]; omega
        · have z2 : ¬ (i : Int) < 26 := by omega
          have HN : Hid (∀ j : Nat, j < i + 1 → dgP j ≠ b ∧ ¬ (j < 26 ∧ b = dgP j - 32)) := fun j hj => by
            by_cases e : j = i
            · subst e; exact ⟨e1, fun h => e3 h.1⟩
            · exact H.out j (by omega)
          go_wp2_with fail
          go_round
          case rel => exact ⟨i + 1, by go_num, by omega, HN.out⟩
          case measure => simp [intOf]; omega
    · have e : i = 36 := by omega
      subst e
      have HR := hid (vl_no b H.out)
      go_wp2_with fail
      go_ret
      exact ⟨ret_int HR.out.symm, rfl⟩
end Pu
end Go.Proofs.Ytoknfhjclpdihaa
