import Derived.Test.YtoknfhjclpdihaaPu11
namespace Go.Proofs.Ytoknfhjclpdihaa
namespace Pu
open Go.RowKit Od

/-- The lengths of numbers below 256. -/
def l8 : ByteArray := ⟨#[0, 1, 2, 2, 3, 3, 3, 3, 4, 4, 4, 4, 4, 4, 4, 4, 5, 5, 5, 5, 5, 5, 5, 5, 5, 5, 5, 5, 5, 5, 5, 5, 6, 6, 6, 6, 6, 6, 6, 6, 6, 6, 6, 6, 6, 6, 6, 6, 6, 6, 6, 6, 6, 6, 6, 6, 6, 6, 6, 6, 6, 6, 6, 6, 7, 7, 7, 7, 7, 7, 7, 7, 7, 7, 7, 7, 7, 7, 7, 7, 7, 7, 7, 7, 7, 7, 7, 7, 7, 7, 7, 7, 7, 7, 7, 7, 7, 7, 7, 7, 7, 7, 7, 7, 7, 7, 7, 7, 7, 7, 7, 7, 7, 7, 7, 7, 7, 7, 7, 7, 7, 7, 7, 7, 7, 7, 7, 7, 8, 8, 8, 8, 8, 8, 8, 8, 8, 8, 8, 8, 8, 8, 8, 8, 8, 8, 8, 8, 8, 8, 8, 8, 8, 8, 8, 8, 8, 8, 8, 8, 8, 8, 8, 8, 8, 8, 8, 8, 8, 8, 8, 8, 8, 8, 8, 8, 8, 8, 8, 8, 8, 8, 8, 8, 8, 8, 8, 8, 8, 8, 8, 8, 8, 8, 8, 8, 8, 8, 8, 8, 8, 8, 8, 8, 8, 8, 8, 8, 8, 8, 8, 8, 8, 8, 8, 8, 8, 8, 8, 8, 8, 8, 8, 8, 8, 8, 8, 8, 8, 8, 8, 8, 8, 8, 8, 8, 8, 8, 8, 8, 8, 8, 8, 8, 8, 8, 8, 8, 8, 8, 8, 8, 8, 8, 8, 8]⟩
set_option maxRecDepth 1000000 in
theorem l8_ck : (List.range 256).all (fun n => decide (n < 2 ^ (l8.data.getD n 0).toNat) && decide ((l8.data.getD n 0).toNat ≤ 8)) = true := by kernel_rfl
theorem l8_bd (n : Nat) (h : n ≤ 255) (hn : n < l8.size) : n < 2 ^ (l8[n]).toNat ∧ (l8[n]).toNat ≤ 8 := by
  have := List.all_eq_true.1 l8_ck n (List.mem_range.2 (by omega))
  rw [Bool.and_eq_true, decide_eq_true_eq, decide_eq_true_eq] at this
  have e : l8.data.getD n 0 = l8[n] := by
    have hn' : n < l8.data.size := hn
    rw [Array.getD_eq_getD_getElem?, Array.getElem?_eq_getElem hn']; rfl
  rw [e] at this
  exact this
theorem wrap_two (x : UInt8) : wrap64 (wrap64 (x.toNat : Int)) = ((x.toNat : Nat) : Int) := by
  have := x.toNat_lt
  unfold wrap64
  omega
set_option maxRecDepth 100000 in
set_option maxHeartbeats 2000000 in
theorem len64_any (n : Nat) (h : n ≤ 255) (w : World) : Calls Try.prog 49 #[.int .u64 n] w fun e w' => (∃ m : Nat, e = .returned (.int .i64 m) ∧ n < 2 ^ m ∧ m ≤ 8) ∧ w' = w := by
  have z1 : ¬ (4294967296 : Int) ≤ (n : Int) := by omega
  have z2 : ¬ (65536 : Int) ≤ (n : Int) := by omega
  have z3 : ¬ (256 : Int) ≤ (n : Int) := by omega
  have q1 : IntKind.u8.wrap (n : Int) = (n : Int) := by rw [IntKind.wrap_u8]; omega
  go_enter Try.func49, Try.ntmps49
  go_wp2_with fail
  go_ret
  have hk := l8_bd n h (by show n < 256; omega)
  exact ⟨⟨_, ret_int (wrap_two _), hk.1, hk.2⟩, rfl⟩
set_option maxHeartbeats 1000000 in
theorem len_any (n : Nat) (h : n ≤ 255) (w : World) : Calls Try.prog 45 #[.int .u64 n] w fun e w' => (∃ m : Nat, e = .returned (.int .i64 m) ∧ n < 2 ^ m ∧ m ≤ 8) ∧ w' = w := by
  have HL := hid (len64_any n h w)
  go_enter Try.func45, Try.ntmps45
  go_wp2_with fail
  refine HL.out.mono ?_
  rintro e w1 ⟨⟨m, rfl, h1, h2⟩, rfl⟩
  go_wp2_with fail
  go_ret
  exact ⟨⟨m, rfl, h1, h2⟩, rfl⟩

set_option maxHeartbeats 2000000 in
theorem last_any (s : ByteArray) (hs : s.size ≤ 1000) (w : World) : Calls Try.prog 39 #[.string s, .int .u8 45] w fun e w' => (∃ i : Int, e = .returned (.int .i64 i) ∧ -1 ≤ i ∧ i < s.size ∧ (∀ k : Nat, (h : k < s.size) → i < k → (s[k].toNat : Int) ≠ 45) ∧ (∀ k : Nat, i = k → (h : k < s.size) → (s[k].toNat : Int) = 45)) ∧ w' = w := by
  go_enter Try.func39, Try.ntmps39
  go_wp2_with fail
  go_loop [5] (fun vi => ∃ i : Int, vi = .int .i64 i ∧ -1 ≤ i ∧ i < s.size ∧ Hid (∀ k : Nat, (h : k < s.size) → i < k → (s[k].toNat : Int) ≠ 45)) (fun vi => (intOf vi + 1).toNat)
  case atStart => exact ⟨(s.size : Int) - 1, by go_num, by omega, by omega, fun k h hk => by omega⟩
  case round =>
    obtain ⟨i, rfl, h1, h2, H⟩ := hrel
    by_cases h0 : 0 ≤ i
    · obtain ⟨k, rfl⟩ : ∃ k : Nat, i = k := ⟨i.toNat, by omega⟩
      have hk : k < s.size := by omega
      have z1 : (k : Int) < (s.size : Int) := by omega
      by_cases he : (s[k].toNat : Int) = 45
      · have he2 : s[k].toNat = 45 := by omega
        have HF : Hid (∀ j : Nat, (k : Int) = j → (h : j < s.size) → (s[j].toNat : Int) = 45) := fun j e h => by
          have : j = k := by omega
          subst this
          exact he
        go_wp2_with fail
        go_ret
        exact ⟨⟨_, rfl, h1, h2, H.out, HF.out⟩, rfl⟩
      · have HN : Hid (∀ j : Nat, (h : j < s.size) → (k : Int) - 1 < j → (s[j].toNat : Int) ≠ 45) := fun j h hj => by
          by_cases e : j = k
          · subst e; exact he
          · exact H.out j h (by omega)
        have he2 : ¬ s[k].toNat = 45 := by omega
        have he3 : ((s[k].toNat : Int) == 45) = false := by simpa using he
        go_wp2_with fail
        go_round
        case rel => exact ⟨(k : Int) - 1, by go_num, by omega, by omega, HN.out⟩
        case measure => simp [intOf]
    · have e : i = -1 := by omega
      subst e
      go_wp2_with fail
      go_ret
      exact ⟨⟨-1, rfl, by omega, by omega, H.out, fun k e _ => by omega⟩, rfl⟩
set_option maxHeartbeats 1000000 in
theorem lastb_any (s : ByteArray) (hs : s.size ≤ 1000) (w : World) : Calls Try.prog 29 #[.string s, .int .u8 45] w fun e w' => (∃ i : Int, e = .returned (.int .i64 i) ∧ -1 ≤ i ∧ i < s.size ∧ (∀ k : Nat, (h : k < s.size) → i < k → (s[k].toNat : Int) ≠ 45) ∧ (∀ k : Nat, i = k → (h : k < s.size) → (s[k].toNat : Int) = 45)) ∧ w' = w := by
  have HL := hid (last_any s hs w)
  go_enter Try.func29, Try.ntmps29
  go_wp2_with fail
  refine HL.out.mono ?_
  rintro e w1 ⟨⟨i, rfl, h⟩, rfl⟩
  have H := hid h
  clear h
  go_wp2_with fail
  go_ret
  exact ⟨⟨i, rfl, H.out⟩, rfl⟩
end Pu
end Go.Proofs.Ytoknfhjclpdihaa
