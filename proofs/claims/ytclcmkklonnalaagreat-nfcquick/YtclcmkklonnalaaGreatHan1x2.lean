import Derived.Test.YtclcmkklonnalaaGreatBase
import Derived.Below
import Derived.Deep.QuietTactic
import Derived.BigQuiet
import Derived.ChangeKeysEq
namespace Go.Proofs.YtclcmkklonnalaaGreat.Ha
open Go.RowKit

theorem hid {p : Prop} (h : p) : Hid p := h

/-- A syllable's lead, vowel and tail (0: none). -/
def ledI (r : Int) : Int := 4352 + (r - 44032) / 28 / 21
def vowI (r : Int) : Int := 4449 + (r - 44032) / 28 % 21
def talI (r : Int) : Int := if 0 < (r - 44032) % 28 then 4519 + (r - 44032) % 28 else 0
def sylB (r : Int) : Bool := decide (44032 ≤ r ∧ r < 44032 + 11172)
def opnB (r : Int) : Bool := sylB r && decide ((r - 44032) % 28 = 0)

theorem led_bd (r : Int) (h : 44032 ≤ r ∧ r ≤ 55203) : 4352 ≤ ledI r ∧ ledI r ≤ 4370 := by have := h.1; unfold ledI; omega
theorem vow_bd (r : Int) : 4449 ≤ vowI r ∧ vowI r ≤ 4469 := by unfold vowI; omega
theorem tal_bd (r : Int) : 0 ≤ talI r ∧ talI r ≤ 4546 := by unfold talI; split <;> omega

theorem wit_yes (r l n : Int) (w : World) (h0 : 0 ≤ l) (h1 : l ≤ 50000) (h2 : 0 ≤ n) (h3 : n ≤ 12000) (h4 : l ≤ r) (h5 : r < l + n) :
    Calls Tryz.prog 91 #[.int .i32 r, .int .i32 l, .int .i32 n] w fun e w' => e = .returned (.bool true) ∧ w' = w := by
  go_enter Tryz.func91, Tryz.ntmps91
  go_wp2
  go_ret
  exact ⟨rfl, rfl⟩
theorem wit_no (r l n : Int) (w : World) (h0 : 0 ≤ l) (h1 : l ≤ 50000) (h2 : 0 ≤ n) (h3 : n ≤ 12000) (h4 : ¬ (l ≤ r ∧ r < l + n)) :
    Calls Tryz.prog 91 #[.int .i32 r, .int .i32 l, .int .i32 n] w fun e w' => e = .returned (.bool false) ∧ w' = w := by
  by_cases h : l ≤ r
  · have h5 : ¬ r < l + n := fun k => h4 ⟨h, k⟩
    clear h4
    go_enter Tryz.func91, Tryz.ntmps91
    go_wp2
    go_ret
    exact ⟨rfl, rfl⟩
  · clear h4
    go_enter Tryz.func91, Tryz.ntmps91
    go_wp2
    go_ret
    exact ⟨rfl, rfl⟩

/-- within, with literals. -/
def witB (r l n : Int) : Bool := decide (l ≤ r ∧ r < l + n)
theorem wit_any (r l n : Int) (w : World) (h0 : 0 ≤ l) (h1 : l ≤ 50000) (h2 : 0 ≤ n) (h3 : n ≤ 12000) :
    Calls Tryz.prog 91 #[.int .i32 r, .int .i32 l, .int .i32 n] w fun e w' => e = .returned (.bool (witB r l n)) ∧ w' = w := by
  by_cases h : l ≤ r ∧ r < l + n
  · have e : witB r l n = true := decide_eq_true h
    rw [e]; exact wit_yes r l n w h0 h1 h2 h3 h.1 h.2
  · have e : witB r l n = false := decide_eq_false h
    rw [e]; exact wit_no r l n w h0 h1 h2 h3 h

theorem syl_any (r : Int) (w : World) :
    Calls Tryz.prog 110 #[.int .i32 r] w fun e w' => e = .returned (.bool (sylB r)) ∧ w' = w := by
  go_enter Tryz.func110, Tryz.ntmps110
  go_wp2_with (go_at_call 91; refine (wit_any _ _ _ _ (by decide) (by decide) (by decide) (by decide)).mono ?_; rintro e w' ⟨rfl, rfl⟩)
  go_ret
  exact ⟨rfl, rfl⟩



theorem split_no (r : Int) (w : World) (h : ¬ (44032 ≤ r ∧ r ≤ 55203)) :
    Calls Tryz.prog 95 #[.int .i32 r] w fun e w' => e = .returned (.tuple #[.int .i32 0, .int .i32 0, .int .i32 0, .bool false]) ∧ w' = w := by
  have hs : sylB r = false := decide_eq_false (by omega)
  clear h
  go_enter Tryz.func95, Tryz.ntmps95
  go_wp2_with (go_at_call 110; refine (syl_any _ _).mono ?_; rintro e w' ⟨rfl, rfl⟩)
  exact bodyPost_ret (v := .tuple #[.int .i32 0, .int .i32 0, .int .i32 0, .bool false]) (by simp [results, Tryz.results95, go_sem]) rfl ⟨rfl, rfl⟩

theorem ret_four {a b c d a' b' c' : Value} (h : a = a') (h' : b = b') (h'' : c = c') : Ending.returned (.tuple #[a, b, c, d]) = .returned (.tuple #[a', b', c', d]) := by rw [h, h', h'']

theorem split_yes (r : Int) (w : World) (h1 : 44032 ≤ r) (h2 : r ≤ 55203) :
    Calls Tryz.prog 95 #[.int .i32 r] w fun e w' => e = .returned (.tuple #[.int .i32 (ledI r), .int .i32 (vowI r), .int .i32 (talI r), .bool true]) ∧ w' = w := by
  have hs : sylB r = true := decide_eq_true (by omega)
  by_cases ht : 0 < (r - 44032) % 28
  · have H : Hid (talI r = 4519 + (r - 44032) % 28) := if_pos ht
    go_enter Tryz.func95, Tryz.ntmps95
    go_wp2_with (go_at_call 110; refine (syl_any _ _).mono ?_; rintro e w' ⟨rfl, rfl⟩)
    exact bodyPost_ret (v := .tuple #[.int .i32 (ledI r), .int .i32 (vowI r), .int .i32 (talI r), .bool true]) (by rw [H.out]; simp [results, Tryz.results95, go_sem, ledI, vowI]) rfl ⟨rfl, rfl⟩
  · have H : Hid (talI r = 0) := if_neg ht
    go_enter Tryz.func95, Tryz.ntmps95
    go_wp2_with (go_at_call 110; refine (syl_any _ _).mono ?_; rintro e w' ⟨rfl, rfl⟩)
    exact bodyPost_ret (v := .tuple #[.int .i32 (ledI r), .int .i32 (vowI r), .int .i32 (talI r), .bool true]) (by rw [H.out]; simp [results, Tryz.results95, go_sem, ledI, vowI]) rfl ⟨rfl, rfl⟩

theorem opn_any (r : Int) (w : World) :
    Calls Tryz.prog 92 #[.int .i32 r] w fun e w' => e = .returned (.bool (opnB r)) ∧ w' = w := by
  by_cases h : 44032 ≤ r ∧ r ≤ 55203
  · have hs : sylB r = true := decide_eq_true (by omega)
    obtain ⟨h1, h2⟩ := h
    by_cases ht : (r - 44032) % 28 = 0
    · have H : Hid (opnB r = true) := by show opnB r = true; unfold opnB; rw [hs, decide_eq_true ht]; rfl
      go_enter Tryz.func92, Tryz.ntmps92
      go_wp2_with (go_at_call 110; refine (syl_any _ _).mono ?_; rintro e w' ⟨rfl, rfl⟩)
      go_ret
      exact ⟨ret_bool H.out.symm, rfl⟩
    · have H : Hid (opnB r = false) := by show opnB r = false; unfold opnB; rw [decide_eq_false ht, Bool.and_false]
      have ht' : ((r - 44032) % 28 == 0) = false := by simpa using ht
      go_enter Tryz.func92, Tryz.ntmps92
      go_wp2_with (go_at_call 110; refine (syl_any _ _).mono ?_; rintro e w' ⟨rfl, rfl⟩)
      go_ret
      exact ⟨ret_bool H.out.symm, rfl⟩
  · have hs : sylB r = false := decide_eq_false (by omega)
    clear h
    have H : Hid (opnB r = false) := by show opnB r = false; unfold opnB; rw [hs, Bool.false_and]
    go_enter Tryz.func92, Tryz.ntmps92
    go_wp2_with (go_at_call 110; refine (syl_any _ _).mono ?_; rintro e w' ⟨rfl, rfl⟩)
    go_ret
    exact ⟨ret_bool H.out.symm, rfl⟩

/-- What two make: 1 a lead and a vowel, 2 an open syllable and a tail. -/
def lvB (a b : Int) : Bool := witB a 4352 19 && witB b 4449 21
def otB (a b : Int) : Bool := opnB a && witB b 4520 27
def lvI (a b : Int) : Int := 44032 + ((a - 4352) * 21 + (b - 4449)) * 28
def otI (a b : Int) : Int := a + (b - 4519)

theorem join_lv (a b : Int) (w : World) (h : lvB a b = true) :
    Calls Tryz.prog 49 #[.int .i32 a, .int .i32 b] w fun e w' => e = .returned (.tuple #[.int .i32 (lvI a b), .bool true]) ∧ w' = w := by
  unfold lvB at h
  rw [Bool.and_eq_true] at h
  obtain ⟨ha, hb⟩ := h
  have ha' := of_decide_eq_true ha
  have hb' := of_decide_eq_true hb
  have a1 : 4352 ≤ a := by omega
  have a2 : a ≤ 4370 := by omega
  have b1 : 4449 ≤ b := by omega
  have b2 : b ≤ 4469 := by omega
  clear ha' hb'
  go_enter Tryz.func49, Tryz.ntmps49
  go_wp2_with (go_at_call 91; refine (wit_any _ _ _ _ (by decide) (by decide) (by decide) (by decide)).mono ?_; rintro e w' ⟨rfl, rfl⟩)
  go_ret2
  exact ⟨rfl, rfl⟩

theorem join_ot (a b : Int) (w : World) (h' : otB a b = true) :
    Calls Tryz.prog 49 #[.int .i32 a, .int .i32 b] w fun e w' => e = .returned (.tuple #[.int .i32 (otI a b), .bool true]) ∧ w' = w := by
  unfold otB at h'
  rw [Bool.and_eq_true] at h'
  obtain ⟨ha, hb⟩ := h'
  have hs : sylB a = true := by unfold opnB at ha; rw [Bool.and_eq_true] at ha; exact ha.1
  have hs' := of_decide_eq_true hs
  have hb' := of_decide_eq_true hb
  have a1 : 44032 ≤ a := by omega
  have a2 : a ≤ 55203 := by omega
  have b1 : 4520 ≤ b := by omega
  have b2 : b ≤ 4546 := by omega
  have h1 : witB a 4352 19 = false := decide_eq_false (by omega)
  clear hs hs' hb'
  go_enter Tryz.func49, Tryz.ntmps49
  go_wp2_with (first | (go_at_call 91; refine (wit_any _ _ _ _ (by decide) (by decide) (by decide) (by decide)).mono ?_; rintro e w' ⟨rfl, rfl⟩) | (go_at_call 92; refine (opn_any _ _).mono ?_; rintro e w' ⟨rfl, rfl⟩))
  go_ret2
  exact ⟨rfl, rfl⟩

theorem join_no (a b : Int) (w : World) (h : lvB a b = false) (h' : otB a b = false) :
    Calls Tryz.prog 49 #[.int .i32 a, .int .i32 b] w fun e w' => e = .returned (.tuple #[.int .i32 0, .bool false]) ∧ w' = w := by
  unfold lvB at h
  unfold otB at h'
  cases h1 : witB a 4352 19 <;> cases h2 : opnB a <;> cases h3 : witB b 4449 21 <;> cases h4 : witB b 4520 27 <;> simp only [h1, h2, h3, h4] at h h' <;> first | exact absurd h (by decide) | exact absurd h' (by decide) | skip
  all_goals
    clear h h'
    go_enter Tryz.func49, Tryz.ntmps49
    go_wp2_with (first | (go_at_call 91; refine (wit_any _ _ _ _ (by decide) (by decide) (by decide) (by decide)).mono ?_; rintro e w' ⟨rfl, rfl⟩) | (go_at_call 92; refine (opn_any _ _).mono ?_; rintro e w' ⟨rfl, rfl⟩))
    go_ret2
    exact ⟨rfl, rfl⟩


/-- The reference's parts. -/
theorem rparts_no (r : Int) (w : World) (h : r < 44032 ∨ 55203 < r) :
    Calls Tryz.prog 102 #[.int .i64 r] w fun e w' => e = .returned (.tuple #[.agg #[.int .i64 0, .int .i64 0, .int .i64 0], .bool false]) ∧ Below w.heap.size w w' := by
  rcases h with h | h
  · go_enter Tryz.func102, Tryz.ntmps102
    go_wp2
    exact bodyPost_ret (v := .tuple #[.agg #[.int .i64 0, .int .i64 0, .int .i64 0], .bool false]) (by simp [results, Tryz.results102, go_sem]) rfl ⟨rfl, by repeat (first | exact Below.refl _ _ | refine Below.alloc ?_ (by simp) _ | refine Below.setCell ?_ (by simp) _)⟩
  · have h' : ¬ r < 44032 := by omega
    go_enter Tryz.func102, Tryz.ntmps102
    go_wp2
    exact bodyPost_ret (v := .tuple #[.agg #[.int .i64 0, .int .i64 0, .int .i64 0], .bool false]) (by simp [results, Tryz.results102, go_sem]) rfl ⟨rfl, by repeat (first | exact Below.refl _ _ | refine Below.alloc ?_ (by simp) _ | refine Below.setCell ?_ (by simp) _)⟩
end Go.Proofs.YtclcmkklonnalaaGreat.Ha

namespace Go.Proofs.YtclcmkklonnalaaGreat.Ha
open Go.RowKit

set_option maxHeartbeats 400000 in
theorem rparts_yes (r : Int) (w : World) (h1 : 44032 ≤ r) (h2 : r ≤ 55203) :
    Calls Tryz.prog 102 #[.int .i64 r] w fun e w' => e = .returned (.tuple #[.agg #[.int .i64 (ledI r), .int .i64 (vowI r), .int .i64 (talI r)], .bool true]) ∧ Below w.heap.size w w' := by
  by_cases ht : 0 < (r - 44032) % 28
  · have H : Hid (talI r = 4519 + (r - 44032) % 28) := if_pos ht
    go_enter Tryz.func102, Tryz.ntmps102
    go_wp2
    exact bodyPost_ret (v := .tuple #[.agg #[.int .i64 (ledI r), .int .i64 (vowI r), .int .i64 (talI r)], .bool true]) (by rw [H.out]; simp [results, Tryz.results102, go_sem, ledI, vowI]) rfl ⟨rfl, by repeat (first | exact Below.refl _ _ | refine Below.alloc ?_ (by simp) _ | refine Below.setCell ?_ (by simp) _)⟩
  · have H : Hid (talI r = 0) := if_neg ht
    go_enter Tryz.func102, Tryz.ntmps102
    go_wp2
    exact bodyPost_ret (v := .tuple #[.agg #[.int .i64 (ledI r), .int .i64 (vowI r), .int .i64 (talI r)], .bool true]) (by rw [H.out]; simp [results, Tryz.results102, go_sem, ledI, vowI]) rfl ⟨rfl, by repeat (first | exact Below.refl _ _ | refine Below.alloc ?_ (by simp) _ | refine Below.setCell ?_ (by simp) _)⟩

theorem tal_zero (r : Int) (h1 : 44032 ≤ r) (h2 : r ≤ 55203) : (talI r == 0) = opnB r := by
  have hs : sylB r = true := decide_eq_true (by omega)
  unfold opnB talI
  rw [hs, Bool.true_and, Bool.eq_iff_iff]
  simp only [beq_iff_eq, decide_eq_true_eq]
  split <;> omega

theorem Tryz.guard3 : Tryz.prog.eqGuardType Tryz.prog.depth 147 = false := by kernel_rfl
theorem run_eq3 (w : World) (a b c : Int) : (Op.equalIn 10000 147 (.agg #[.int .i64 a, .int .i64 b, .int .i64 c]) (.agg #[.int .i64 a, .int .i64 b, .int .i64 c])).run Tryz.prog w = .ok true w := by
  have hs : (Tryz.prog.info? 3).isSome = true := by kernel_rfl
  obtain ⟨i, hi⟩ := Option.isSome_iff_exists.1 hs
  have hc : Tryz.prog.cellsOf 3 = 1 := by kernel_rfl
  rw [show 10000 = 9999 + 1 from rfl, run_equalIn_array w 9999 _ _ Tryz.underlying147 hi, hc]
  have hp : ∀ (cs : Array Value) (off : Nat) (w : World), (part 3 cs off).run Tryz.prog w = (match cs[off]? with | some v => Result.ok v w | none => (part 3 cs off).run Tryz.prog w) := fun cs off w => by
    cases h : cs[off]? with
    | none => rfl
    | some v => simp [part, isAgg, run_underlying Tryz.underlying3, h]
  have he : ∀ (a b : Int) (w : World), (Op.equalIn 9999 3 (.int .i64 a) (.int .i64 b)).run Tryz.prog w = .ok (a == b) w := fun a b w => run_equalIn_int w 9998 3 .i64 .i64 a b Tryz.underlying3
  simp [List.range, List.range.loop, Op.eqItems, hp, he]

/-- The reference's join. -/
def rjI (a b : Int) : Int := if lvB a b = true then lvI a b else if otB a b = true then otI a b else -1

set_option maxHeartbeats 1000000 in
theorem rjoin_any (a b : Int) (w : World) (a1 : -2147483648 ≤ a) (a2 : a ≤ 2147483647) (b1 : -2147483648 ≤ b) (b2 : b ≤ 2147483647) :
    Calls Tryz.prog 100 #[.int .i64 a, .int .i64 b] w fun e w' => e = .returned (.int .i64 (rjI a b)) ∧ Below w.heap.size w w' := by
  by_cases h : 4352 ≤ a ∧ a ≤ 4370 ∧ 4449 ≤ b ∧ b ≤ 4469
  · have hl : lvB a b = true := by unfold lvB witB; rw [decide_eq_true (by omega), decide_eq_true (by omega)]; rfl
    have H : Hid (rjI a b = lvI a b) := if_pos hl
    obtain ⟨p1, p2, p3, p4⟩ := h
    clear hl
    go_enter Tryz.func100, Tryz.ntmps100
    go_wp2
    go_ret
    exact ⟨ret_int H.out.symm, Below.refl _ _⟩
  have hl : ¬ lvB a b = true := by
    unfold lvB witB
    rw [Bool.and_eq_true]
    simp only [decide_eq_true_eq]
    omega
  have E : Hid (rjI a b = if otB a b = true then otI a b else -1) := if_neg hl
  clear hl
  by_cases hs : 44032 ≤ a ∧ a ≤ 55203
  · obtain ⟨s1, s2⟩ := hs
    have tz := tal_zero a s1 s2
    have hP := hid (fun w => rparts_yes a w s1 s2)
    have n1 : ¬ a ≤ 4370 := by omega
    clear h
    by_cases ho : opnB a = true
    · rw [ho] at tz
      by_cases hb : 4520 ≤ b ∧ b ≤ 4546
      · have H : Hid (rjI a b = otI a b) := by
          show rjI a b = otI a b
          rw [E.out, if_pos]
          unfold otB witB
          rw [ho, decide_eq_true (by omega)]; rfl
        obtain ⟨p1, p2⟩ := hb
        have e1 : a + b - 4519 = otI a b := by unfold otI; omega
        have e2 := hid e1
        clear e1
        go_enter Tryz.func100, Tryz.ntmps100
        go_wp2_with (go_at_call 102; refine (hP.out _).mono ?_; rintro e w' ⟨rfl, hb'⟩; have hok := hid ((Ok.start w).step hb'); clear hb')
        go_ret
        exact ⟨ret_int (e2.out.trans H.out.symm), hok.out.alloc.1⟩
      · have H : Hid (rjI a b = -1) := by
          show rjI a b = -1
          rw [E.out, if_neg]
          unfold otB witB
          rw [Bool.and_eq_true, decide_eq_true_eq]
          omega
        have hb' : b < 4520 ∨ (4520 ≤ b ∧ ¬ b ≤ 4546) := by omega
        clear hb
        rcases hb' with hb | ⟨hb, hb2⟩
        all_goals
          go_enter Tryz.func100, Tryz.ntmps100
          go_wp2_with (go_at_call 102; refine (hP.out _).mono ?_; rintro e w' ⟨rfl, hb'⟩; have hok := hid ((Ok.start w).step hb'); clear hb')
          go_ret
          exact ⟨ret_int H.out.symm, hok.out.alloc.1⟩
    · have ho' : opnB a = false := by simpa using ho
      rw [ho'] at tz
      have H : Hid (rjI a b = -1) := by
        show rjI a b = -1
        rw [E.out, if_neg]
        unfold otB
        rw [ho', Bool.false_and]; exact Bool.false_ne_true
      go_enter Tryz.func100, Tryz.ntmps100
      go_wp2_with (go_at_call 102; refine (hP.out _).mono ?_; rintro e w' ⟨rfl, hb'⟩; have hok := hid ((Ok.start w).step hb'); clear hb')
      go_ret
      exact ⟨ret_int H.out.symm, hok.out.alloc.1⟩
  · have hs0 : sylB a = false := decide_eq_false (by omega)
    have H : Hid (rjI a b = -1) := by
      show rjI a b = -1
      rw [E.out, if_neg]
      unfold otB opnB
      rw [hs0, Bool.false_and, Bool.false_and]; exact Bool.false_ne_true
    have hP := hid (fun w => rparts_no a w (by omega))
    have hc : a < 4352 ∨ (4352 ≤ a ∧ ¬ a ≤ 4370) ∨ (4352 ≤ a ∧ a ≤ 4370 ∧ b < 4449) ∨ (4352 ≤ a ∧ a ≤ 4370 ∧ 4449 ≤ b ∧ ¬ b ≤ 4469) := by omega
    clear h hs hs0
    rcases hc with h | ⟨h, k⟩ | ⟨h, k, l⟩ | ⟨h, k, l, m⟩
    all_goals
      go_enter Tryz.func100, Tryz.ntmps100
      go_wp2_with (go_at_call 102; refine (hP.out _).mono ?_; rintro e w' ⟨rfl, hb'⟩; have hok := hid ((Ok.start w).step hb'); clear hb')
      go_ret
      exact ⟨ret_int H.out.symm, hok.out.alloc.1⟩
end Go.Proofs.YtclcmkklonnalaaGreat.Ha
