import Derived.Test.YtbamhbfncddieaaBase
import Derived.Below
import Derived.Deep.QuietTactic
import Derived.BigQuiet
namespace Go.Proofs.Ytbamhbfncddieaa.Ha
open Go.RowKit

theorem hid {p : Prop} (h : p) : Hid p := h

/-- A syllable's lead, vowel and tail (0: none). -/
def ledI (r : Int) : Int := 4352 + (r - 44032) / 28 / 21
def vowI (r : Int) : Int := 4449 + (r - 44032) / 28 % 21
def talI (r : Int) : Int := if 0 < (r - 44032) % 28 then 4519 + (r - 44032) % 28 else 0
def sylB (r : Int) : Bool := decide (44032 ≤ r ∧ r < 44032 + 11172)
def opnB (r : Int) : Bool := sylB r && decide ((r - 44032) % 28 = 0)

theorem led_bd (r : Int) (h : 44032 ≤ r ∧ r ≤ 55203) : 4352 ≤ ledI r ∧ ledI r ≤ 4370 := by have := h.1; unfold ledI; omega
theorem vow_bd (r : Int) : 4449 ≤ vowI r ∧ vowI r ≤ 4469 := by unfold vowI; omega
theorem tal_bd (r : Int) : 0 ≤ talI r ∧ talI r ≤ 4546 := by unfold talI; split <;> omega

theorem wit_yes (r l n : Int) (w : World) (h0 : 0 ≤ l) (h1 : l ≤ 50000) (h2 : 0 ≤ n) (h3 : n ≤ 12000) (h4 : l ≤ r) (h5 : r < l + n) :
    Calls Try.prog 107 #[.int .i32 r, .int .i32 l, .int .i32 n] w fun e w' => e = .returned (.bool true) ∧ w' = w := by
  go_enter Try.func107, Try.ntmps107
  go_wp2
  go_ret
  exact ⟨rfl, rfl⟩
theorem wit_no (r l n : Int) (w : World) (h0 : 0 ≤ l) (h1 : l ≤ 50000) (h2 : 0 ≤ n) (h3 : n ≤ 12000) (h4 : ¬ (l ≤ r ∧ r < l + n)) :
    Calls Try.prog 107 #[.int .i32 r, .int .i32 l, .int .i32 n] w fun e w' => e = .returned (.bool false) ∧ w' = w := by
  by_cases h : l ≤ r
  · have h5 : ¬ r < l + n := fun k => h4 ⟨h, k⟩
    clear h4
    go_enter Try.func107, Try.ntmps107
    go_wp2
    go_ret
    exact ⟨rfl, rfl⟩
  · clear h4
    go_enter Try.func107, Try.ntmps107
    go_wp2
    go_ret
    exact ⟨rfl, rfl⟩

/-- within, with literals. -/
def witB (r l n : Int) : Bool := decide (l ≤ r ∧ r < l + n)
theorem wit_any (r l n : Int) (w : World) (h0 : 0 ≤ l) (h1 : l ≤ 50000) (h2 : 0 ≤ n) (h3 : n ≤ 12000) :
    Calls Try.prog 107 #[.int .i32 r, .int .i32 l, .int .i32 n] w fun e w' => e = .returned (.bool (witB r l n)) ∧ w' = w := by
  by_cases h : l ≤ r ∧ r < l + n
  · have e : witB r l n = true := decide_eq_true h
    rw [e]; exact wit_yes r l n w h0 h1 h2 h3 h.1 h.2
  · have e : witB r l n = false := decide_eq_false h
    rw [e]; exact wit_no r l n w h0 h1 h2 h3 h

theorem syl_any (r : Int) (w : World) :
    Calls Try.prog 109 #[.int .i32 r] w fun e w' => e = .returned (.bool (sylB r)) ∧ w' = w := by
  go_enter Try.func109, Try.ntmps109
  go_wp2_with (go_at_call 107; refine (wit_any _ _ _ _ (by decide) (by decide) (by decide) (by decide)).mono ?_; rintro e w' ⟨rfl, rfl⟩)
  go_ret
  exact ⟨rfl, rfl⟩



theorem split_no (r : Int) (w : World) (h : ¬ (44032 ≤ r ∧ r ≤ 55203)) :
    Calls Try.prog 96 #[.int .i32 r] w fun e w' => e = .returned (.tuple #[.int .i32 0, .int .i32 0, .int .i32 0, .bool false]) ∧ w' = w := by
  have hs : sylB r = false := decide_eq_false (by omega)
  clear h
  go_enter Try.func96, Try.ntmps96
  go_wp2_with (go_at_call 109; refine (syl_any _ _).mono ?_; rintro e w' ⟨rfl, rfl⟩)
  exact bodyPost_ret (v := .tuple #[.int .i32 0, .int .i32 0, .int .i32 0, .bool false]) (by simp [results, Try.results96, go_sem]) rfl ⟨rfl, rfl⟩

theorem ret_four {a b c d a' b' c' : Value} (h : a = a') (h' : b = b') (h'' : c = c') : Ending.returned (.tuple #[a, b, c, d]) = .returned (.tuple #[a', b', c', d]) := by rw [h, h', h'']

theorem split_yes (r : Int) (w : World) (h1 : 44032 ≤ r) (h2 : r ≤ 55203) :
    Calls Try.prog 96 #[.int .i32 r] w fun e w' => e = .returned (.tuple #[.int .i32 (ledI r), .int .i32 (vowI r), .int .i32 (talI r), .bool true]) ∧ w' = w := by
  have hs : sylB r = true := decide_eq_true (by omega)
  by_cases ht : 0 < (r - 44032) % 28
  · have H : Hid (talI r = 4519 + (r - 44032) % 28) := if_pos ht
    go_enter Try.func96, Try.ntmps96
    go_wp2_with (go_at_call 109; refine (syl_any _ _).mono ?_; rintro e w' ⟨rfl, rfl⟩)
    exact bodyPost_ret (v := .tuple #[.int .i32 (ledI r), .int .i32 (vowI r), .int .i32 (talI r), .bool true]) (by rw [H.out]; simp [results, Try.results96, go_sem, ledI, vowI]) rfl ⟨rfl, rfl⟩
  · have H : Hid (talI r = 0) := if_neg ht
    go_enter Try.func96, Try.ntmps96
    go_wp2_with (go_at_call 109; refine (syl_any _ _).mono ?_; rintro e w' ⟨rfl, rfl⟩)
    exact bodyPost_ret (v := .tuple #[.int .i32 (ledI r), .int .i32 (vowI r), .int .i32 (talI r), .bool true]) (by rw [H.out]; simp [results, Try.results96, go_sem, ledI, vowI]) rfl ⟨rfl, rfl⟩

theorem opn_any (r : Int) (w : World) :
    Calls Try.prog 108 #[.int .i32 r] w fun e w' => e = .returned (.bool (opnB r)) ∧ w' = w := by
  by_cases h : 44032 ≤ r ∧ r ≤ 55203
  · have hs : sylB r = true := decide_eq_true (by omega)
    obtain ⟨h1, h2⟩ := h
    by_cases ht : (r - 44032) % 28 = 0
    · have H : Hid (opnB r = true) := by show opnB r = true; unfold opnB; rw [hs, decide_eq_true ht]; rfl
      go_enter Try.func108, Try.ntmps108
      go_wp2_with (go_at_call 109; refine (syl_any _ _).mono ?_; rintro e w' ⟨rfl, rfl⟩)
      go_ret
      exact ⟨ret_bool H.out.symm, rfl⟩
    · have H : Hid (opnB r = false) := by show opnB r = false; unfold opnB; rw [decide_eq_false ht, Bool.and_false]
      have ht' : ((r - 44032) % 28 == 0) = false := by simpa using ht
      go_enter Try.func108, Try.ntmps108
      go_wp2_with (go_at_call 109; refine (syl_any _ _).mono ?_; rintro e w' ⟨rfl, rfl⟩)
      go_ret
      exact ⟨ret_bool H.out.symm, rfl⟩
  · have hs : sylB r = false := decide_eq_false (by omega)
    clear h
    have H : Hid (opnB r = false) := by show opnB r = false; unfold opnB; rw [hs, Bool.false_and]
    go_enter Try.func108, Try.ntmps108
    go_wp2_with (go_at_call 109; refine (syl_any _ _).mono ?_; rintro e w' ⟨rfl, rfl⟩)
    go_ret
    exact ⟨ret_bool H.out.symm, rfl⟩

/-- What two make: 1 a lead and a vowel, 2 an open syllable and a tail. -/
def lvB (a b : Int) : Bool := witB a 4352 19 && witB b 4449 21
def otB (a b : Int) : Bool := opnB a && witB b 4520 27
def lvI (a b : Int) : Int := 44032 + ((a - 4352) * 21 + (b - 4449)) * 28
def otI (a b : Int) : Int := a + (b - 4519)

theorem join_lv (a b : Int) (w : World) (h : lvB a b = true) :
    Calls Try.prog 95 #[.int .i32 a, .int .i32 b] w fun e w' => e = .returned (.tuple #[.int .i32 (lvI a b), .bool true]) ∧ w' = w := by
  unfold lvB at h
  rw [Bool.and_eq_true] at h
  obtain ⟨ha, hb⟩ := h
  have ha' := of_decide_eq_true ha
  have hb' := of_decide_eq_true hb
  have a1 : 4352 ≤ a := by omega
  have a2 : a ≤ 4370 := by omega
  have b1 : 4449 ≤ b := by omega
  have b2 : b ≤ 4469 := by omega
  clear ha' hb'
  go_enter Try.func95, Try.ntmps95
  go_wp2_with (go_at_call 107; refine (wit_any _ _ _ _ (by decide) (by decide) (by decide) (by decide)).mono ?_; rintro e w' ⟨rfl, rfl⟩)
  go_ret2
  exact ⟨rfl, rfl⟩

theorem join_ot (a b : Int) (w : World) (h' : otB a b = true) :
    Calls Try.prog 95 #[.int .i32 a, .int .i32 b] w fun e w' => e = .returned (.tuple #[.int .i32 (otI a b), .bool true]) ∧ w' = w := by
  unfold otB at h'
  rw [Bool.and_eq_true] at h'
  obtain ⟨ha, hb⟩ := h'
  have hs : sylB a = true := by unfold opnB at ha; rw [Bool.and_eq_true] at ha; exact ha.1
  have hs' := of_decide_eq_true hs
  have hb' := of_decide_eq_true hb
  have a1 : 44032 ≤ a := by omega
  have a2 : a ≤ 55203 := by omega
  have b1 : 4520 ≤ b := by omega
  have b2 : b ≤ 4546 := by omega
  have h1 : witB a 4352 19 = false := decide_eq_false (by omega)
  clear hs hs' hb'
  go_enter Try.func95, Try.ntmps95
  go_wp2_with (first | (go_at_call 107; refine (wit_any _ _ _ _ (by decide) (by decide) (by decide) (by decide)).mono ?_; rintro e w' ⟨rfl, rfl⟩) | (go_at_call 108; refine (opn_any _ _).mono ?_; rintro e w' ⟨rfl, rfl⟩))
  go_ret2
  exact ⟨rfl, rfl⟩

theorem join_no (a b : Int) (w : World) (h : lvB a b = false) (h' : otB a b = false) :
    Calls Try.prog 95 #[.int .i32 a, .int .i32 b] w fun e w' => e = .returned (.tuple #[.int .i32 0, .bool false]) ∧ w' = w := by
  unfold lvB at h
  unfold otB at h'
  cases h1 : witB a 4352 19 <;> cases h2 : opnB a <;> cases h3 : witB b 4449 21 <;> cases h4 : witB b 4520 27 <;> simp only [h1, h2, h3, h4] at h h' <;> first | exact absurd h (by decide) | exact absurd h' (by decide) | skip
  all_goals
    clear h h'
    go_enter Try.func95, Try.ntmps95
    go_wp2_with (first | (go_at_call 107; refine (wit_any _ _ _ _ (by decide) (by decide) (by decide) (by decide)).mono ?_; rintro e w' ⟨rfl, rfl⟩) | (go_at_call 108; refine (opn_any _ _).mono ?_; rintro e w' ⟨rfl, rfl⟩))
    go_ret2
    exact ⟨rfl, rfl⟩


end Go.Proofs.Ytbamhbfncddieaa.Ha
