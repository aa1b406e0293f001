import Derived.Test.YteimhepmcjdbpaaGreatDoorOct3
import Derived.BigQuiet
import Derived.Deep.QuietTactic
namespace Go.Proofs.YteimhepmcjdbpaaGreatDoor
open Go.RowKit

theorem hid {p : Prop} (h : p) : Hid p := h

/-- The octet of the escape that begins a text; -1: none does. -/
def atL : List UInt8 → Int
  | a :: b :: c :: _ => if a.toNat = 37 ∧ 0 ≤ valR b.toNat ∧ 0 ≤ valR c.toNat then 16 * valR b.toNat + valR c.toNat else -1
  | _ => -1

theorem valR_lt (b : Int) : valR b < 16 := by unfold valR; split <;> (try split) <;> (try split) <;> omega
theorem valR_ge (b : Int) : -1 ≤ valR b := by unfold valR; split <;> (try split) <;> (try split) <;> omega

theorem atL_lt (l : List UInt8) : atL l < 256 := by
  unfold atL
  split
  · rename_i a b c _
    split
    · have := valR_lt b.toNat; have := valR_lt c.toNat; omega
    · omega
  · omega
theorem atL_neg (l : List UInt8) (h : atL l < 0) : atL l = -1 := by
  unfold atL at h ⊢
  split
  · rename_i a b c _
    split
    · rename_i h1; simp only [if_pos h1] at h; omega
    · rfl
  · rfl

theorem drop3 (s : ByteArray) (k : Nat) (h : k + 2 < s.size) : s.data.toList.drop k = s[k] :: s[k + 1] :: s[k + 2] :: s.data.toList.drop (k + 3) := by
  have e : ∀ j (hj : j < s.size), s.data.toList.drop j = s[j] :: s.data.toList.drop (j + 1) := fun j hj => List.drop_eq_getElem_cons (by rw [len_size]; exact hj)
  rw [e k (by omega), e (k + 1) (by omega), e (k + 2) h]

theorem at_in (s : ByteArray) (k : Nat) (h : k + 2 < s.size) : atL (s.data.toList.drop k) = if s[k].toNat = 37 ∧ 0 ≤ valR s[k + 1].toNat ∧ 0 ≤ valR s[k + 2].toNat then 16 * valR s[k + 1].toNat + valR s[k + 2].toNat else -1 := by
  rw [drop3 s k h]; rfl
theorem at_out (s : ByteArray) (k : Nat) (h : s.size ≤ k + 2) : atL (s.data.toList.drop k) = -1 := by
  have hl : (s.data.toList.drop k).length ≤ 2 := by rw [List.length_drop, len_size]; omega
  match s.data.toList.drop k, hl with
  | [], _ => rfl
  | [_], _ => rfl
  | [_, _], _ => rfl

theorem nib_all : ((List.range 16).all fun a => (List.range 16).all fun b => bits BinOp.or IntKind.i64 ((a : Int) * 16) (b : Int) % 256 == 16 * (a : Int) + (b : Int)) = true := by decide +kernel
theorem nib_join (a b : Int) (ha : 0 ≤ a) (ha' : a < 16) (hb : 0 ≤ b) (hb' : b < 16) : bits BinOp.or IntKind.i64 (a * 16) b % 256 = 16 * a + b := by
  obtain ⟨m, rfl⟩ := Int.eq_ofNat_of_zero_le ha
  obtain ⟨n, rfl⟩ := Int.eq_ofNat_of_zero_le hb
  have h1 := List.all_eq_true.1 nib_all m (by simp; omega)
  have h2 := List.all_eq_true.1 h1 n (by simp; omega)
  exact beq_iff_eq.1 h2

set_option maxHeartbeats 400000 in
theorem at_yes (s : ByteArray) (k : Nat) (w : World) (hs : s.size ≤ maxLen) (h : 0 ≤ atL (s.data.toList.drop k)) :
    Calls Tryz.prog 87 #[.string s, .int .i64 k] w fun e w' => e = .returned (.tuple #[.int .u8 (atL (s.data.toList.drop k)), .bool true]) ∧ w' = w := by
  unfold maxLen at hs
  have hk : k + 2 < s.size := by
    by_cases hk : k + 2 < s.size
    · exact hk
    · rw [at_out s k (by omega)] at h; omega
  rw [at_in s k hk] at h ⊢
  by_cases hc : s[k].toNat = 37 ∧ 0 ≤ valR s[k + 1].toNat ∧ 0 ≤ valR s[k + 2].toNat
  · rw [if_pos hc]
    obtain ⟨h37, ha, hb⟩ := hc
    have h37' : (s[k].toNat : Int) = 37 := by omega
    have v1 := valR_lt s[k + 1].toNat
    have v2 := valR_lt s[k + 2].toNat
    have HJ := hid (nib_join _ _ ha v1 hb v2)
    have HA := hid ha
    have HB := hid hb
    clear h
    have hk1 : (k : Int) ≤ (s.size : Int) - 3 := by omega
    go_enter Tryz.func87, Tryz.ntmps87
    go_wp2_with (first | (go_at_call 60; refine (val_yes _ _ (by first | exact HA.out | exact HB.out)).mono ?_; rintro e w' ⟨rfl, rfl⟩))
    go_ret2
    exact ⟨ret_two (int_eq HJ.out) rfl, rfl⟩
  · rw [if_neg hc] at h; omega

set_option maxHeartbeats 800000 in
theorem at_no (s : ByteArray) (k : Nat) (w : World) (hs : s.size ≤ maxLen) (hks : k ≤ s.size) (h : atL (s.data.toList.drop k) < 0) :
    Calls Tryz.prog 87 #[.string s, .int .i64 k] w fun e w' => e = .returned (.tuple #[.int .u8 0, .bool false]) ∧ w' = w := by
  unfold maxLen at hs
  by_cases hk : k + 2 < s.size
  · have hk1 : (k : Int) ≤ (s.size : Int) - 3 := by omega
    rw [at_in s k hk] at h
    by_cases h37 : s[k].toNat = 37
    · have h37' : (s[k].toNat : Int) = 37 := by omega
      by_cases ha : 0 ≤ valR s[k + 1].toNat
      · have hb : valR s[k + 2].toNat < 0 := by
          by_cases hb : 0 ≤ valR s[k + 2].toNat
          · rw [if_pos ⟨h37, ha, hb⟩] at h; omega
          · omega
        have HA := hid ha
        have HB := hid hb
        clear h
        go_enter Tryz.func87, Tryz.ntmps87
        go_wp2_with (first | (go_at_call 60; first | (refine (val_yes _ _ (by exact HA.out)).mono ?_; rintro e w' ⟨rfl, rfl⟩) | (refine (val_no _ _ (by exact HB.out)).mono ?_; rintro e w' ⟨rfl, rfl⟩)))
        go_ret2
        exact ⟨rfl, rfl⟩
      · have HA : Hid (valR s[k + 1].toNat < 0) := by show _ < _; omega
        clear h ha
        go_enter Tryz.func87, Tryz.ntmps87
        go_wp2_with (first | (go_at_call 60; refine (val_no _ _ (by exact HA.out)).mono ?_; rintro e w' ⟨rfl, rfl⟩))
        go_ret2
        exact ⟨rfl, rfl⟩
    · have h37' : ((s[k].toNat : Int) != 37) = true := by rw [bne_iff_ne]; omega
      clear h
      go_enter Tryz.func87, Tryz.ntmps87
      go_wp2_with fail
      go_ret2
      exact ⟨rfl, rfl⟩
  · have hk1 : (s.size : Int) - 3 < (k : Int) := by omega
    clear h
    go_enter Tryz.func87, Tryz.ntmps87
    go_wp2_with fail
    go_ret2
    exact ⟨rfl, rfl⟩

set_option maxHeartbeats 800000 in
theorem rat_any (s : ByteArray) (k : Nat) (w : World) (hs : s.size ≤ maxLen) :
    Calls Tryz.prog 69 #[.string s, .int .i64 k] w fun e w' => e = .returned (.int .i64 (atL (s.data.toList.drop k))) ∧ ∃ n, w' = w.drewN n := by
  unfold maxLen at hs
  by_cases hk : k + 2 < s.size
  · have hk1 : ¬ ((s.size : Int) - (k : Int) < 3) := by omega
    have hk0 : (k : Int) < (s.size : Int) := by omega
    rw [at_in s k hk]
    by_cases h37 : s[k].toNat = 37
    · have h37' : (s[k].toNat : Int) = 37 := by omega
      have v1 := valR_lt s[k + 1].toNat
      have v2 := valR_lt s[k + 2].toNat
      have u1 := valR_ge s[k + 1].toNat
      have u2 := valR_ge s[k + 2].toNat
      have q1 : IntKind.i64.wrap ((k : Int) + 1) = (k : Int) + 1 := by rw [IntKind.wrap_i64]; omega
      have q2 : IntKind.i64.wrap ((k : Int) + 2) = (k : Int) + 2 := by rw [IntKind.wrap_i64]; omega
      have q3 : 0 ≤ (k : Int) + 1 ∧ (k : Int) + 1 < (s.size : Int) := by omega
      have q4 : 0 ≤ (k : Int) + 2 ∧ (k : Int) + 2 < (s.size : Int) := by omega
      by_cases ha : 0 ≤ valR s[k + 1].toNat ∧ 0 ≤ valR s[k + 2].toNat
      · rw [if_pos ⟨h37, ha⟩]
        obtain ⟨ha, hb⟩ := ha
        go_enter Tryz.func69, Tryz.ntmps69
        go_wp2_with fail
        go_quiet ((go_at_call 28; exact Calls.quiet_of_same (rval_any _ _)))
        go_wp2
        go_ret
        exact ⟨rfl, _, rfl⟩
      · rw [if_neg (fun h => ha h.2)]
        by_cases hb : 0 ≤ valR s[k + 1].toNat
        · have hc : valR s[k + 2].toNat < 0 := by omega
          clear ha
          go_enter Tryz.func69, Tryz.ntmps69
          go_wp2_with fail
          go_quiet ((go_at_call 28; exact Calls.quiet_of_same (rval_any _ _)))
          go_wp2
          go_ret
          exact ⟨rfl, _, rfl⟩
        · have hc : valR s[k + 1].toNat < 0 := by omega
          clear ha hb
          go_enter Tryz.func69, Tryz.ntmps69
          go_wp2_with fail
          go_quiet ((go_at_call 28; exact Calls.quiet_of_same (rval_any _ _)))
          go_wp2
          go_ret
          exact ⟨rfl, _, rfl⟩
    · have h37' : ((s[k].toNat : Int) != 37) = true := by rw [bne_iff_ne]; omega
      rw [if_neg (fun h => h37 h.1)]
      go_enter Tryz.func69, Tryz.ntmps69
      go_wp2_with fail
      go_ret
      exact ⟨rfl, 0, rfl⟩
  · rw [at_out s k (by omega)]
    by_cases hk0 : (s.size : Int) ≤ (k : Int)
    · go_enter Tryz.func69, Tryz.ntmps69
      go_wp2_with fail
      go_ret
      exact ⟨rfl, 0, rfl⟩
    · have hk2 : (k : Int) < (s.size : Int) := by omega
      have hk1 : (s.size : Int) - (k : Int) < 3 := by omega
      go_enter Tryz.func69, Tryz.ntmps69
      go_wp2_with fail
      go_ret
      exact ⟨rfl, 0, rfl⟩
end Go.Proofs.YteimhepmcjdbpaaGreatDoor
