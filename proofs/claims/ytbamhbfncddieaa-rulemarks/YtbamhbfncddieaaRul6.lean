import Derived.Test.YtbamhbfncddieaaRul5
namespace Go.Proofs.Ytbamhbfncddieaa
namespace Ru
open Go.RowKit Od

set_option maxRecDepth 100000 in
set_option maxHeartbeats 2000000 in
theorem Met_in {w : World} {b : Nat} (hB : Bk w b) {ao : Option Addr} {n cap : Nat} {X : List Int} (hX : X.length = n) (hS : SlP .i32 w ao cap X) (hn : n ≤ 1000000) (i : Nat) (hi : i < X.length) :
    Calls Try.prog 21 #[.pointer (some ⟨b, 0, none⟩), .slice ao n cap, .int .i64 i] w fun e w' => e = .returned (.bool (metR X[i] X i)) ∧ Below w.heap.size w w' := by
  have HL := hr (look_any hB hX hS hn)
  have HM := hr (fun (W : World) (v : Nat) (h : Vw W v b ao n cap X) => met_any h hn i (by omega) hi)
  generalize metR X[i] X i = q at *
  have z0 : ¬ (i : Int) < 0 := by omega
  have z1 : ¬ (n : Int) ≤ (i : Int) := by omega
  clear hB hS
  go_enter Try.func21, Try.ntmps21
  go_wp2_with fail
  refine HL.out.mono ?_
  rintro e w1 ⟨v, rfl, hV, hb⟩
  have H1 := hr (And.intro hV hb)
  clear hV hb
  go_wp2_with fail
  refine (HM.out w1 v H1.out.1).mono ?_
  rintro e w2 ⟨rfl, hb⟩
  have H2 := hr (H1.out.2.trans (hb.mono H1.out.2.size))
  clear hb
  go_wp2_with fail
  go_ret
  exact ⟨rfl, H2.out⟩
theorem Met_out (w : World) (b : Nat) (ao : Option Addr) (n cap : Nat) (i : Int) (hi : i < 0 ∨ (n : Int) ≤ i) :
    Calls Try.prog 21 #[.pointer (some ⟨b, 0, none⟩), .slice ao n cap, .int .i64 i] w fun e w' => e = .returned (.bool false) ∧ w' = w := by
  by_cases h : i < 0
  · go_enter Try.func21, Try.ntmps21
    go_wp2_with fail
    go_ret
    exact ⟨rfl, rfl⟩
  · have h2 : (n : Int) ≤ i := by omega
    go_enter Try.func21, Try.ntmps21
    go_wp2_with fail
    go_ret
    exact ⟨rfl, rfl⟩
/-- Has a code point a rule? -/
def hsB (r : Int) : Bool := decide (r = 8204 ∨ r = 8205 ∨ r = 183 ∨ r = 885 ∨ r = 1523 ∨ r = 1524 ∨ r = 12539 ∨ (1632 ≤ r ∧ r ≤ 1641) ∨ (1776 ≤ r ∧ r ≤ 1785))
set_option maxHeartbeats 4000000 in
theorem has_any (r : Int) (w : World) : Calls Try.prog 25 #[.int .i32 r] w fun e w' => e = .returned (.bool (hsB r)) ∧ w' = w := by
  have HAr := hr (fun (W : World) => ar_any r W)
  have HEt := hr (fun (W : World) => et_any r W)
  by_cases h8204 : r = 8204
  · have HE : Hid (hsB r = true) := decide_eq_true (by omega)
    have p : (r == 8204) = true := beq_iff_eq.2 h8204
    clear h8204
    go_enter Try.func25, Try.ntmps25
    go_wp2_with fail
    go_ret
    exact ⟨ret_bool HE.out.symm, rfl⟩
  by_cases h8205 : r = 8205
  · have HE : Hid (hsB r = true) := decide_eq_true (by omega)
    have n8204 : (r == 8204) = false := beq_eq_false_iff_ne.2 (by omega)
    have p : (r == 8205) = true := beq_iff_eq.2 h8205
    clear h8204 h8205
    go_enter Try.func25, Try.ntmps25
    go_wp2_with fail
    go_ret
    exact ⟨ret_bool HE.out.symm, rfl⟩
  by_cases h183 : r = 183
  · have HE : Hid (hsB r = true) := decide_eq_true (by omega)
    have n8204 : (r == 8204) = false := beq_eq_false_iff_ne.2 (by omega)
    have n8205 : (r == 8205) = false := beq_eq_false_iff_ne.2 (by omega)
    have p : (r == 183) = true := beq_iff_eq.2 h183
    clear h8204 h8205 h183
    go_enter Try.func25, Try.ntmps25
    go_wp2_with fail
    go_ret
    exact ⟨ret_bool HE.out.symm, rfl⟩
  by_cases h885 : r = 885
  · have HE : Hid (hsB r = true) := decide_eq_true (by omega)
    have n8204 : (r == 8204) = false := beq_eq_false_iff_ne.2 (by omega)
    have n8205 : (r == 8205) = false := beq_eq_false_iff_ne.2 (by omega)
    have n183 : (r == 183) = false := beq_eq_false_iff_ne.2 (by omega)
    have p : (r == 885) = true := beq_iff_eq.2 h885
    clear h8204 h8205 h183 h885
    go_enter Try.func25, Try.ntmps25
    go_wp2_with fail
    go_ret
    exact ⟨ret_bool HE.out.symm, rfl⟩
  by_cases h1523 : r = 1523
  · have HE : Hid (hsB r = true) := decide_eq_true (by omega)
    have n8204 : (r == 8204) = false := beq_eq_false_iff_ne.2 (by omega)
    have n8205 : (r == 8205) = false := beq_eq_false_iff_ne.2 (by omega)
    have n183 : (r == 183) = false := beq_eq_false_iff_ne.2 (by omega)
    have n885 : (r == 885) = false := beq_eq_false_iff_ne.2 (by omega)
    have p : (r == 1523) = true := beq_iff_eq.2 h1523
    clear h8204 h8205 h183 h885 h1523
    go_enter Try.func25, Try.ntmps25
    go_wp2_with fail
    go_ret
    exact ⟨ret_bool HE.out.symm, rfl⟩
  by_cases h1524 : r = 1524
  · have HE : Hid (hsB r = true) := decide_eq_true (by omega)
    have n8204 : (r == 8204) = false := beq_eq_false_iff_ne.2 (by omega)
    have n8205 : (r == 8205) = false := beq_eq_false_iff_ne.2 (by omega)
    have n183 : (r == 183) = false := beq_eq_false_iff_ne.2 (by omega)
    have n885 : (r == 885) = false := beq_eq_false_iff_ne.2 (by omega)
    have n1523 : (r == 1523) = false := beq_eq_false_iff_ne.2 (by omega)
    have p : (r == 1524) = true := beq_iff_eq.2 h1524
    clear h8204 h8205 h183 h885 h1523 h1524
    go_enter Try.func25, Try.ntmps25
    go_wp2_with fail
    go_ret
    exact ⟨ret_bool HE.out.symm, rfl⟩
  by_cases h12539 : r = 12539
  · have HE : Hid (hsB r = true) := decide_eq_true (by omega)
    have n8204 : (r == 8204) = false := beq_eq_false_iff_ne.2 (by omega)
    have n8205 : (r == 8205) = false := beq_eq_false_iff_ne.2 (by omega)
    have n183 : (r == 183) = false := beq_eq_false_iff_ne.2 (by omega)
    have n885 : (r == 885) = false := beq_eq_false_iff_ne.2 (by omega)
    have n1523 : (r == 1523) = false := beq_eq_false_iff_ne.2 (by omega)
    have n1524 : (r == 1524) = false := beq_eq_false_iff_ne.2 (by omega)
    have p : (r == 12539) = true := beq_iff_eq.2 h12539
    clear h8204 h8205 h183 h885 h1523 h1524 h12539
    go_enter Try.func25, Try.ntmps25
    go_wp2_with fail
    go_ret
    exact ⟨ret_bool HE.out.symm, rfl⟩
  have n8204 : (r == 8204) = false := beq_eq_false_iff_ne.2 (by omega)
  have n8205 : (r == 8205) = false := beq_eq_false_iff_ne.2 (by omega)
  have n183 : (r == 183) = false := beq_eq_false_iff_ne.2 (by omega)
  have n885 : (r == 885) = false := beq_eq_false_iff_ne.2 (by omega)
  have n1523 : (r == 1523) = false := beq_eq_false_iff_ne.2 (by omega)
  have n1524 : (r == 1524) = false := beq_eq_false_iff_ne.2 (by omega)
  have n12539 : (r == 12539) = false := beq_eq_false_iff_ne.2 (by omega)
  cases ha : arB r
  · cases he : etB r
    · have h1 := of_decide_eq_false ha
      have h2 := of_decide_eq_false he
      have HE : Hid (hsB r = false) := decide_eq_false (by omega)
      clear h1 h2
      go_enter Try.func25, Try.ntmps25
      go_wp2_with fail
      refine (HAr.out _).mono ?_
      rw [ha]
      rintro e W1 ⟨rfl, rfl⟩
      go_wp2_with fail
      refine (HEt.out _).mono ?_
      rw [he]
      rintro e W1 ⟨rfl, rfl⟩
      go_wp2_with fail
      go_ret
      exact ⟨ret_bool HE.out.symm, rfl⟩
    · have h2 := of_decide_eq_true he
      have HE : Hid (hsB r = true) := decide_eq_true (by omega)
      clear h2
      go_enter Try.func25, Try.ntmps25
      go_wp2_with fail
      refine (HAr.out _).mono ?_
      rw [ha]
      rintro e W1 ⟨rfl, rfl⟩
      go_wp2_with fail
      refine (HEt.out _).mono ?_
      rw [he]
      rintro e W1 ⟨rfl, rfl⟩
      go_wp2_with fail
      go_ret
      exact ⟨ret_bool HE.out.symm, rfl⟩
  · have h1 := of_decide_eq_true ha
    have HE : Hid (hsB r = true) := decide_eq_true (by omega)
    clear h1
    go_enter Try.func25, Try.ntmps25
    go_wp2_with fail
    refine (HAr.out _).mono ?_
    rw [ha]
    rintro e W1 ⟨rfl, rfl⟩
    go_wp2_with fail
    go_ret
    exact ⟨ret_bool HE.out.symm, rfl⟩
/-- Where nothing is asked. -/
theorem met_free {r : Int} (h : hsB r = false) (X : List Int) (i : Nat) : metR r X i = true := by
  have h1 := of_decide_eq_false h
  have ha : arB r = false := decide_eq_false (by omega)
  have he : etB r = false := decide_eq_false (by omega)
  unfold metR
  rw [if_neg (by omega), if_neg (by omega), if_neg (by omega), if_neg (by omega), if_neg (by omega), if_neg (by omega), ha, he]
  rfl
/-- Is it one from the first to the last? -/
def wiB (r a b : Int) : Bool := decide (a ≤ r ∧ r ≤ b)
set_option maxHeartbeats 1000000 in
theorem wi_any (r a b : Int) (w : World) : Calls Try.prog 34 #[.int .i32 r, .int .i32 a, .int .i32 b] w fun e w' => e = .returned (.bool (wiB r a b)) ∧ w' = w := by
  by_cases h1 : a ≤ r
  · by_cases h2 : r ≤ b
    · have HE : Hid (wiB r a b = true) := decide_eq_true ⟨h1, h2⟩
      go_enter Try.func34, Try.ntmps34
      go_wp2_with fail
      go_ret
      exact ⟨ret_bool HE.out.symm, rfl⟩
    · have HE : Hid (wiB r a b = false) := decide_eq_false (fun h => h2 h.2)
      go_enter Try.func34, Try.ntmps34
      go_wp2_with fail
      go_ret
      exact ⟨ret_bool HE.out.symm, rfl⟩
  · have HE : Hid (wiB r a b = false) := decide_eq_false (fun h => h1 h.1)
    go_enter Try.func34, Try.ntmps34
    go_wp2_with fail
    go_ret
    exact ⟨ret_bool HE.out.symm, rfl⟩

/-- What is said of single code points. -/
def exP (r : Int) : Int :=
  if r = 223 ∨ r = 962 ∨ r = 1789 ∨ r = 1790 ∨ r = 12295 then 1
  else if r = 183 ∨ r = 885 ∨ r = 1523 ∨ r = 1524 ∨ r = 12539 ∨ (1632 ≤ r ∧ r ≤ 1641) ∨ (1776 ≤ r ∧ r ≤ 1785) then 3
  else if r = 1600 ∨ (12337 ≤ r ∧ r ≤ 12341) ∨ r = 12347 then 4 else 0
set_option maxHeartbeats 4000000 in
theorem exc_any (r : Int) (w : World) : Calls Try.prog 18 #[.int .i32 r] w fun e w' => e = .returned (.int .i64 (exP r)) ∧ w' = w := by
  by_cases h0 : r = 223
  · have HE : Hid (exP r = 1) := by show _ = _; unfold exP; rw [if_pos (by omega)]
    have p : (r == 223) = true := by rw [beq_iff_eq]; exact h0
    clear h0
    go_enter Try.func18, Try.ntmps18
    go_wp2_with (go_at_call 34; refine (wi_any _ _ _ _).mono ?_; rintro e w1 ⟨rfl, rfl⟩)
    go_ret
    exact ⟨ret_int HE.out.symm, rfl⟩
  by_cases h1 : r = 962
  · have HE : Hid (exP r = 1) := by show _ = _; unfold exP; rw [if_pos (by omega)]
    have q0 : (r == 223) = false := by rw [beq_eq_false_iff_ne]; omega
    have p : (r == 962) = true := by rw [beq_iff_eq]; exact h1
    clear h1
    clear h0
    go_enter Try.func18, Try.ntmps18
    go_wp2_with (go_at_call 34; refine (wi_any _ _ _ _).mono ?_; rintro e w1 ⟨rfl, rfl⟩)
    go_ret
    exact ⟨ret_int HE.out.symm, rfl⟩
  by_cases h2 : r = 1789
  · have HE : Hid (exP r = 1) := by show _ = _; unfold exP; rw [if_pos (by omega)]
    have q0 : (r == 223) = false := by rw [beq_eq_false_iff_ne]; omega
    have q1 : (r == 962) = false := by rw [beq_eq_false_iff_ne]; omega
    have p : (r == 1789) = true := by rw [beq_iff_eq]; exact h2
    clear h2
    clear h0 h1
    go_enter Try.func18, Try.ntmps18
    go_wp2_with (go_at_call 34; refine (wi_any _ _ _ _).mono ?_; rintro e w1 ⟨rfl, rfl⟩)
    go_ret
    exact ⟨ret_int HE.out.symm, rfl⟩
  by_cases h3 : r = 1790
  · have HE : Hid (exP r = 1) := by show _ = _; unfold exP; rw [if_pos (by omega)]
    have q0 : (r == 223) = false := by rw [beq_eq_false_iff_ne]; omega
    have q1 : (r == 962) = false := by rw [beq_eq_false_iff_ne]; omega
    have q2 : (r == 1789) = false := by rw [beq_eq_false_iff_ne]; omega
    have p : (r == 1790) = true := by rw [beq_iff_eq]; exact h3
    clear h3
    clear h0 h1 h2
    go_enter Try.func18, Try.ntmps18
    go_wp2_with (go_at_call 34; refine (wi_any _ _ _ _).mono ?_; rintro e w1 ⟨rfl, rfl⟩)
    go_ret
    exact ⟨ret_int HE.out.symm, rfl⟩
  by_cases h4 : r = 12295
  · have HE : Hid (exP r = 1) := by show _ = _; unfold exP; rw [if_pos (by omega)]
    have q0 : (r == 223) = false := by rw [beq_eq_false_iff_ne]; omega
    have q1 : (r == 962) = false := by rw [beq_eq_false_iff_ne]; omega
    have q2 : (r == 1789) = false := by rw [beq_eq_false_iff_ne]; omega
    have q3 : (r == 1790) = false := by rw [beq_eq_false_iff_ne]; omega
    have p : (r == 12295) = true := by rw [beq_iff_eq]; exact h4
    clear h4
    clear h0 h1 h2 h3
    go_enter Try.func18, Try.ntmps18
    go_wp2_with (go_at_call 34; refine (wi_any _ _ _ _).mono ?_; rintro e w1 ⟨rfl, rfl⟩)
    go_ret
    exact ⟨ret_int HE.out.symm, rfl⟩
  by_cases h5 : r = 183
  · have HE : Hid (exP r = 3) := by show _ = _; unfold exP; rw [if_neg (by omega), if_pos (by omega)]
    have q0 : (r == 223) = false := by rw [beq_eq_false_iff_ne]; omega
    have q1 : (r == 962) = false := by rw [beq_eq_false_iff_ne]; omega
    have q2 : (r == 1789) = false := by rw [beq_eq_false_iff_ne]; omega
    have q3 : (r == 1790) = false := by rw [beq_eq_false_iff_ne]; omega
    have q4 : (r == 12295) = false := by rw [beq_eq_false_iff_ne]; omega
    have p : (r == 183) = true := by rw [beq_iff_eq]; exact h5
    clear h5
    clear h0 h1 h2 h3 h4
    go_enter Try.func18, Try.ntmps18
    go_wp2_with (go_at_call 34; refine (wi_any _ _ _ _).mono ?_; rintro e w1 ⟨rfl, rfl⟩)
    go_ret
    exact ⟨ret_int HE.out.symm, rfl⟩
  by_cases h6 : r = 885
  · have HE : Hid (exP r = 3) := by show _ = _; unfold exP; rw [if_neg (by omega), if_pos (by omega)]
    have q0 : (r == 223) = false := by rw [beq_eq_false_iff_ne]; omega
    have q1 : (r == 962) = false := by rw [beq_eq_false_iff_ne]; omega
    have q2 : (r == 1789) = false := by rw [beq_eq_false_iff_ne]; omega
    have q3 : (r == 1790) = false := by rw [beq_eq_false_iff_ne]; omega
    have q4 : (r == 12295) = false := by rw [beq_eq_false_iff_ne]; omega
    have q5 : (r == 183) = false := by rw [beq_eq_false_iff_ne]; omega
    have p : (r == 885) = true := by rw [beq_iff_eq]; exact h6
    clear h6
    clear h0 h1 h2 h3 h4 h5
    go_enter Try.func18, Try.ntmps18
    go_wp2_with (go_at_call 34; refine (wi_any _ _ _ _).mono ?_; rintro e w1 ⟨rfl, rfl⟩)
    go_ret
    exact ⟨ret_int HE.out.symm, rfl⟩
  by_cases h7 : r = 1523
  · have HE : Hid (exP r = 3) := by show _ = _; unfold exP; rw [if_neg (by omega), if_pos (by omega)]
    have q0 : (r == 223) = false := by rw [beq_eq_false_iff_ne]; omega
    have q1 : (r == 962) = false := by rw [beq_eq_false_iff_ne]; omega
    have q2 : (r == 1789) = false := by rw [beq_eq_false_iff_ne]; omega
    have q3 : (r == 1790) = false := by rw [beq_eq_false_iff_ne]; omega
    have q4 : (r == 12295) = false := by rw [beq_eq_false_iff_ne]; omega
    have q5 : (r == 183) = false := by rw [beq_eq_false_iff_ne]; omega
    have q6 : (r == 885) = false := by rw [beq_eq_false_iff_ne]; omega
    have p : (r == 1523) = true := by rw [beq_iff_eq]; exact h7
    clear h7
    clear h0 h1 h2 h3 h4 h5 h6
    go_enter Try.func18, Try.ntmps18
    go_wp2_with (go_at_call 34; refine (wi_any _ _ _ _).mono ?_; rintro e w1 ⟨rfl, rfl⟩)
    go_ret
    exact ⟨ret_int HE.out.symm, rfl⟩
  by_cases h8 : r = 1524
  · have HE : Hid (exP r = 3) := by show _ = _; unfold exP; rw [if_neg (by omega), if_pos (by omega)]
    have q0 : (r == 223) = false := by rw [beq_eq_false_iff_ne]; omega
    have q1 : (r == 962) = false := by rw [beq_eq_false_iff_ne]; omega
    have q2 : (r == 1789) = false := by rw [beq_eq_false_iff_ne]; omega
    have q3 : (r == 1790) = false := by rw [beq_eq_false_iff_ne]; omega
    have q4 : (r == 12295) = false := by rw [beq_eq_false_iff_ne]; omega
    have q5 : (r == 183) = false := by rw [beq_eq_false_iff_ne]; omega
    have q6 : (r == 885) = false := by rw [beq_eq_false_iff_ne]; omega
    have q7 : (r == 1523) = false := by rw [beq_eq_false_iff_ne]; omega
    have p : (r == 1524) = true := by rw [beq_iff_eq]; exact h8
    clear h8
    clear h0 h1 h2 h3 h4 h5 h6 h7
    go_enter Try.func18, Try.ntmps18
    go_wp2_with (go_at_call 34; refine (wi_any _ _ _ _).mono ?_; rintro e w1 ⟨rfl, rfl⟩)
    go_ret
    exact ⟨ret_int HE.out.symm, rfl⟩
  by_cases h9 : r = 12539
  · have HE : Hid (exP r = 3) := by show _ = _; unfold exP; rw [if_neg (by omega), if_pos (by omega)]
    have q0 : (r == 223) = false := by rw [beq_eq_false_iff_ne]; omega
    have q1 : (r == 962) = false := by rw [beq_eq_false_iff_ne]; omega
    have q2 : (r == 1789) = false := by rw [beq_eq_false_iff_ne]; omega
    have q3 : (r == 1790) = false := by rw [beq_eq_false_iff_ne]; omega
    have q4 : (r == 12295) = false := by rw [beq_eq_false_iff_ne]; omega
    have q5 : (r == 183) = false := by rw [beq_eq_false_iff_ne]; omega
    have q6 : (r == 885) = false := by rw [beq_eq_false_iff_ne]; omega
    have q7 : (r == 1523) = false := by rw [beq_eq_false_iff_ne]; omega
    have q8 : (r == 1524) = false := by rw [beq_eq_false_iff_ne]; omega
    have p : (r == 12539) = true := by rw [beq_iff_eq]; exact h9
    clear h9
    clear h0 h1 h2 h3 h4 h5 h6 h7 h8
    go_enter Try.func18, Try.ntmps18
    go_wp2_with (go_at_call 34; refine (wi_any _ _ _ _).mono ?_; rintro e w1 ⟨rfl, rfl⟩)
    go_ret
    exact ⟨ret_int HE.out.symm, rfl⟩
  by_cases h10 : 1632 ≤ r ∧ r ≤ 1641
  · have HE : Hid (exP r = 3) := by show _ = _; unfold exP; rw [if_neg (by omega), if_pos (by omega)]
    have q0 : (r == 223) = false := by rw [beq_eq_false_iff_ne]; omega
    have q1 : (r == 962) = false := by rw [beq_eq_false_iff_ne]; omega
    have q2 : (r == 1789) = false := by rw [beq_eq_false_iff_ne]; omega
    have q3 : (r == 1790) = false := by rw [beq_eq_false_iff_ne]; omega
    have q4 : (r == 12295) = false := by rw [beq_eq_false_iff_ne]; omega
    have q5 : (r == 183) = false := by rw [beq_eq_false_iff_ne]; omega
    have q6 : (r == 885) = false := by rw [beq_eq_false_iff_ne]; omega
    have q7 : (r == 1523) = false := by rw [beq_eq_false_iff_ne]; omega
    have q8 : (r == 1524) = false := by rw [beq_eq_false_iff_ne]; omega
    have q9 : (r == 12539) = false := by rw [beq_eq_false_iff_ne]; omega
    have p : wiB r 1632 1641 = true := decide_eq_true h10
    clear h10
    clear h0 h1 h2 h3 h4 h5 h6 h7 h8 h9
    go_enter Try.func18, Try.ntmps18
    go_wp2_with (go_at_call 34; refine (wi_any _ _ _ _).mono ?_; rintro e w1 ⟨rfl, rfl⟩)
    go_ret
    exact ⟨ret_int HE.out.symm, rfl⟩
  by_cases h11 : 1776 ≤ r ∧ r ≤ 1785
  · have HE : Hid (exP r = 3) := by show _ = _; unfold exP; rw [if_neg (by omega), if_pos (by omega)]
    have q0 : (r == 223) = false := by rw [beq_eq_false_iff_ne]; omega
    have q1 : (r == 962) = false := by rw [beq_eq_false_iff_ne]; omega
    have q2 : (r == 1789) = false := by rw [beq_eq_false_iff_ne]; omega
    have q3 : (r == 1790) = false := by rw [beq_eq_false_iff_ne]; omega
    have q4 : (r == 12295) = false := by rw [beq_eq_false_iff_ne]; omega
    have q5 : (r == 183) = false := by rw [beq_eq_false_iff_ne]; omega
    have q6 : (r == 885) = false := by rw [beq_eq_false_iff_ne]; omega
    have q7 : (r == 1523) = false := by rw [beq_eq_false_iff_ne]; omega
    have q8 : (r == 1524) = false := by rw [beq_eq_false_iff_ne]; omega
    have q9 : (r == 12539) = false := by rw [beq_eq_false_iff_ne]; omega
    have q10 : wiB r 1632 1641 = false := decide_eq_false (by omega)
    have p : wiB r 1776 1785 = true := decide_eq_true h11
    clear h11
    clear h0 h1 h2 h3 h4 h5 h6 h7 h8 h9 h10
    go_enter Try.func18, Try.ntmps18
    go_wp2_with (go_at_call 34; refine (wi_any _ _ _ _).mono ?_; rintro e w1 ⟨rfl, rfl⟩)
    go_ret
    exact ⟨ret_int HE.out.symm, rfl⟩
  by_cases h12 : r = 1600
  · have HE : Hid (exP r = 4) := by show _ = _; unfold exP; rw [if_neg (by omega), if_neg (by omega), if_pos (by omega)]
    have q0 : (r == 223) = false := by rw [beq_eq_false_iff_ne]; omega
    have q1 : (r == 962) = false := by rw [beq_eq_false_iff_ne]; omega
    have q2 : (r == 1789) = false := by rw [beq_eq_false_iff_ne]; omega
    have q3 : (r == 1790) = false := by rw [beq_eq_false_iff_ne]; omega
    have q4 : (r == 12295) = false := by rw [beq_eq_false_iff_ne]; omega
    have q5 : (r == 183) = false := by rw [beq_eq_false_iff_ne]; omega
    have q6 : (r == 885) = false := by rw [beq_eq_false_iff_ne]; omega
    have q7 : (r == 1523) = false := by rw [beq_eq_false_iff_ne]; omega
    have q8 : (r == 1524) = false := by rw [beq_eq_false_iff_ne]; omega
    have q9 : (r == 12539) = false := by rw [beq_eq_false_iff_ne]; omega
    have q10 : wiB r 1632 1641 = false := decide_eq_false (by omega)
    have q11 : wiB r 1776 1785 = false := decide_eq_false (by omega)
    have p : (r == 1600) = true := by rw [beq_iff_eq]; exact h12
    clear h12
    clear h0 h1 h2 h3 h4 h5 h6 h7 h8 h9 h10 h11
    go_enter Try.func18, Try.ntmps18
    go_wp2_with (go_at_call 34; refine (wi_any _ _ _ _).mono ?_; rintro e w1 ⟨rfl, rfl⟩)
    go_ret
    exact ⟨ret_int HE.out.symm, rfl⟩
  by_cases h13 : 12337 ≤ r ∧ r ≤ 12341
  · have HE : Hid (exP r = 4) := by show _ = _; unfold exP; rw [if_neg (by omega), if_neg (by omega), if_pos (by omega)]
    have q0 : (r == 223) = false := by rw [beq_eq_false_iff_ne]; omega
    have q1 : (r == 962) = false := by rw [beq_eq_false_iff_ne]; omega
    have q2 : (r == 1789) = false := by rw [beq_eq_false_iff_ne]; omega
    have q3 : (r == 1790) = false := by rw [beq_eq_false_iff_ne]; omega
    have q4 : (r == 12295) = false := by rw [beq_eq_false_iff_ne]; omega
    have q5 : (r == 183) = false := by rw [beq_eq_false_iff_ne]; omega
    have q6 : (r == 885) = false := by rw [beq_eq_false_iff_ne]; omega
    have q7 : (r == 1523) = false := by rw [beq_eq_false_iff_ne]; omega
    have q8 : (r == 1524) = false := by rw [beq_eq_false_iff_ne]; omega
    have q9 : (r == 12539) = false := by rw [beq_eq_false_iff_ne]; omega
    have q10 : wiB r 1632 1641 = false := decide_eq_false (by omega)
    have q11 : wiB r 1776 1785 = false := decide_eq_false (by omega)
    have q12 : (r == 1600) = false := by rw [beq_eq_false_iff_ne]; omega
    have p : wiB r 12337 12341 = true := decide_eq_true h13
    clear h13
    clear h0 h1 h2 h3 h4 h5 h6 h7 h8 h9 h10 h11 h12
    go_enter Try.func18, Try.ntmps18
    go_wp2_with (go_at_call 34; refine (wi_any _ _ _ _).mono ?_; rintro e w1 ⟨rfl, rfl⟩)
    go_ret
    exact ⟨ret_int HE.out.symm, rfl⟩
  by_cases h14 : r = 12347
  · have HE : Hid (exP r = 4) := by show _ = _; unfold exP; rw [if_neg (by omega), if_neg (by omega), if_pos (by omega)]
    have q0 : (r == 223) = false := by rw [beq_eq_false_iff_ne]; omega
    have q1 : (r == 962) = false := by rw [beq_eq_false_iff_ne]; omega
    have q2 : (r == 1789) = false := by rw [beq_eq_false_iff_ne]; omega
    have q3 : (r == 1790) = false := by rw [beq_eq_false_iff_ne]; omega
    have q4 : (r == 12295) = false := by rw [beq_eq_false_iff_ne]; omega
    have q5 : (r == 183) = false := by rw [beq_eq_false_iff_ne]; omega
    have q6 : (r == 885) = false := by rw [beq_eq_false_iff_ne]; omega
    have q7 : (r == 1523) = false := by rw [beq_eq_false_iff_ne]; omega
    have q8 : (r == 1524) = false := by rw [beq_eq_false_iff_ne]; omega
    have q9 : (r == 12539) = false := by rw [beq_eq_false_iff_ne]; omega
    have q10 : wiB r 1632 1641 = false := decide_eq_false (by omega)
    have q11 : wiB r 1776 1785 = false := decide_eq_false (by omega)
    have q12 : (r == 1600) = false := by rw [beq_eq_false_iff_ne]; omega
    have q13 : wiB r 12337 12341 = false := decide_eq_false (by omega)
    have p : (r == 12347) = true := by rw [beq_iff_eq]; exact h14
    clear h14
    clear h0 h1 h2 h3 h4 h5 h6 h7 h8 h9 h10 h11 h12 h13
    go_enter Try.func18, Try.ntmps18
    go_wp2_with (go_at_call 34; refine (wi_any _ _ _ _).mono ?_; rintro e w1 ⟨rfl, rfl⟩)
    go_ret
    exact ⟨ret_int HE.out.symm, rfl⟩
  have HE : Hid (exP r = 0) := by show _ = _; unfold exP; rw [if_neg (by omega), if_neg (by omega), if_neg (by omega)]
  have q0 : (r == 223) = false := by rw [beq_eq_false_iff_ne]; omega
  have q1 : (r == 962) = false := by rw [beq_eq_false_iff_ne]; omega
  have q2 : (r == 1789) = false := by rw [beq_eq_false_iff_ne]; omega
  have q3 : (r == 1790) = false := by rw [beq_eq_false_iff_ne]; omega
  have q4 : (r == 12295) = false := by rw [beq_eq_false_iff_ne]; omega
  have q5 : (r == 183) = false := by rw [beq_eq_false_iff_ne]; omega
  have q6 : (r == 885) = false := by rw [beq_eq_false_iff_ne]; omega
  have q7 : (r == 1523) = false := by rw [beq_eq_false_iff_ne]; omega
  have q8 : (r == 1524) = false := by rw [beq_eq_false_iff_ne]; omega
  have q9 : (r == 12539) = false := by rw [beq_eq_false_iff_ne]; omega
  have q10 : wiB r 1632 1641 = false := decide_eq_false (by omega)
  have q11 : wiB r 1776 1785 = false := decide_eq_false (by omega)
  have q12 : (r == 1600) = false := by rw [beq_eq_false_iff_ne]; omega
  have q13 : wiB r 12337 12341 = false := decide_eq_false (by omega)
  have q14 : (r == 12347) = false := by rw [beq_eq_false_iff_ne]; omega
  clear h0 h1 h2 h3 h4 h5 h6 h7 h8 h9 h10 h11 h12 h13 h14
  go_enter Try.func18, Try.ntmps18
  go_wp2_with (go_at_call 34; refine (wi_any _ _ _ _).mono ?_; rintro e w1 ⟨rfl, rfl⟩)
  go_ret
  exact ⟨ret_int HE.out.symm, rfl⟩

theorem has_ex (r : Int) : hsB r = (r == 8204 || r == 8205 || exP r == 3) := by
  rw [Bool.eq_iff_iff]
  unfold hsB
  rw [decide_eq_true_eq, Bool.or_eq_true, Bool.or_eq_true, beq_iff_eq, beq_iff_eq, beq_iff_eq]
  unfold exP
  constructor
  · intro h
    by_cases h1 : r = 8204 ∨ r = 8205
    · exact .inl h1
    · right
      rw [if_neg (by omega), if_pos (by omega)]
  · rintro (h | h)
    · omega
    · split at h
      · cases h
      · split at h
        · omega
        · split at h <;> cases h
theorem rw1 : metR 183 [108, 183, 108] 1 = true := by kernel_rfl
theorem rw2 : metR 183 [183] 0 = false := by kernel_rfl
theorem rw3 : metR 8205 [2325, 2381, 8205] 2 = true := by kernel_rfl
theorem lit_sl (w : World) (l : List Int) (g : Nat) (hg : g = w.heap.size) : SlP .i32 (w.alloc (.cells (ivs .i32 l).toArray 21)) (some ⟨g, 0, none⟩) l.length l := by
  subst hg
  refine ⟨Nat.le_refl _, fun e => (by cases e), fun j hj => ⟨w.heap.size, 0, rfl, by simp, ?_⟩⟩
  unfold World.cell?
  rw [heap_new]
  simp [ivs, hj]
/-- Met of a literal. -/
theorem met_lit {w : World} {b : Nat} (hB : Bk w b) (l : List Int) (n : Nat) (hn : n = l.length) (hl : n ≤ 1000) (g : Nat) (hg : g = w.heap.size) (i : Nat) (hi : i < l.length) (q : Bool) (hq : metR l[i] l i = q) :
    Calls Try.prog 21 #[.pointer (some ⟨b, 0, none⟩), .slice (some ⟨g, 0, none⟩) n n, .int .i64 i] (w.alloc (.cells (ivs .i32 l).toArray 21)) fun e w' => e = .returned (.bool q) ∧ Below w.heap.size w w' := by
  subst hn
  have hb : Below w.heap.size w (w.alloc (.cells (ivs .i32 l).toArray 21)) := (Below.refl _ _).alloc (Nat.le_refl _) _
  refine (Met_in (hB.step hb) rfl (lit_sl w l g hg) (by omega) i hi).mono ?_
  rintro e w' ⟨rfl, hb'⟩
  rw [hq]
  exact ⟨rfl, hb.trans (hb'.mono hb.size)⟩
set_option maxRecDepth 100000 in
set_option maxHeartbeats 4000000 in
theorem awake13_any {w : World} {b : Nat} (hB : Bk w b) : Calls Try.prog 19 #[.pointer (some ⟨b, 0, none⟩)] w fun e w' => e = .returned (.bool true) ∧ Below w.heap.size w w' := by
  have HM := hr (fun (W : World) (h : Bk W b) (l : List Int) (n : Nat) (hn : n = l.length) (hl : n ≤ 1000) (g : Nat) (hg : g = W.heap.size) (i : Nat) (hi : i < l.length) (q : Bool) (hq : metR l[i] l i = q) => met_lit h l n hn hl g hg i hi q hq)
  have HH := hr (fun (W : World) => has_any 8205 W)
  have hh : hsB 8205 = true := rfl
  rw [hh] at HH
  clear hh
  have H0 := hr (And.intro hB (Ok.start w))
  clear hB
  go_enter Try.func19, Try.ntmps19
  go_wp2_with fail
  refine (HM.out w H0.out.1 [108, 183, 108] 3 rfl (by omega) _ rfl 1 (by simp) true rw1).mono ?_
  rintro e w1 ⟨rfl, hb⟩
  replace H0 := hr (And.intro (H0.out.1.step hb) (H0.out.2.step hb))
  clear hb
  go_wp2_with fail
  refine (HM.out w1 H0.out.1 [183] 1 rfl (by omega) _ rfl 0 (by simp) false rw2).mono ?_
  rintro e w2 ⟨rfl, hb⟩
  replace H0 := hr (And.intro (H0.out.1.step hb) (H0.out.2.step hb))
  clear hb
  go_wp2_with fail
  refine (HM.out w2 H0.out.1 [2325, 2381, 8205] 3 rfl (by omega) _ rfl 2 (by simp) true rw3).mono ?_
  rintro e w3 ⟨rfl, hb⟩
  replace H0 := hr (And.intro (H0.out.1.step hb) (H0.out.2.step hb))
  clear hb
  go_wp2_with fail
  refine (HH.out _).mono ?_
  rintro e w4 ⟨rfl, rfl⟩
  go_wp2_with fail
  go_ret
  exact ⟨rfl, H0.out.2.1⟩
end Ru
end Go.Proofs.Ytbamhbfncddieaa
