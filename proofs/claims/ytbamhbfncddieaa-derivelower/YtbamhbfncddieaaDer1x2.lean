import Derived.Test.YtbamhbfncddieaaNfc3x8
namespace Go.Proofs.Ytbamhbfncddieaa
namespace De
open Go.RowKit Od Nf

theorem hd {p : Prop} (h : p) : Hid p := h
/-- What the book says of a code point's kind. -/
def knP (r : Int) : Int := (Uc.getV Uc.zTr Uc.bookL r).a
theorem knd_any {w : World} {b : Nat} (h : Bk w b) (r : Int) : Calls Try.prog 17 #[.pointer (some ⟨b, 0, none⟩), .int .i32 r] w fun e w' => e = .returned (.int .i64 (knP r)) ∧ Below w.heap.size w w' := by
  obtain ⟨p, rv, hb⟩ := h
  exact Uc.kind_any hb r
/-- Is it its own form? -/
def stB (r : Int) : Bool := decide (nfcP clsP [r] = [r])
theorem one_sl (k : IntKind) (w : World) (t : TypeId) (x : Int) (N : Nat) (hN : N = w.heap.size) : Sn k (w.alloc (.cells #[.int k x] t)) (.slice (some ⟨N, 0, none⟩) 1 1) [x] := by
  subst hN
  refine ⟨⟨w.heap.size, 0, none⟩, 1, rfl, Nat.le_refl _, fun e => (by cases e), fun j hj => ⟨w.heap.size, 0, rfl, by simp, ?_⟩⟩
  have : j = 0 := by simp at hj; omega
  subst this
  unfold World.cell?
  rw [heap_new]
  rfl
set_option maxRecDepth 100000 in
set_option maxHeartbeats 2000000 in
theorem stab_any {w : World} {f b p d u s : Nat} (hF : Fm w f b p d u s) {r : Int} (hr : Pr.I32 r) :
    Calls Try.prog 15 #[.pointer (some ⟨f, 0, none⟩), .int .i32 r] w fun e w' => e = .returned (.bool (stB r)) ∧ Below w.heap.size w w' := by
  have hI : ∀ z ∈ [r], Pr.I32 z := fun z hz => by simp at hz; subst hz; exact hr
  have hb0 : Below w.heap.size w (w.alloc (.cells #[.int .i32 r] 21)) := (Below.refl _ _).alloc (Nat.le_refl _) _
  have HS := hd (one_sl .i32 w 21 r w.heap.size rfl).sl
  have HN := hd (nfc_any (hF.step hb0) HS.out hI (by simp))
  have hlC : (nfcP clsP [r]).length ≤ 1000000000 := Nat.le_trans (nfc_I32 [r] hI).2 (by simp)
  have HEq := hd (fun (W : World) (v : Value) (h1 : Sl .i32 W v (nfcP clsP [r])) (h2 : Sl .i32 W (.slice (some ⟨w.heap.size, 0, none⟩) 1 1) [r]) => eq_any v _ _ _ W h1 h2 hlC)
  have HB0 := hd hb0
  clear hF hI hb0 hlC hr
  go_enter Try.func15, Try.ntmps15
  go_wp2_with fail
  refine HN.out.mono ?_
  rintro e w1 ⟨v1, rfl, h1, hb1⟩
  have H1 : Hid (Sl .i32 w1 v1 (nfcP clsP [r]) ∧ Sl .i32 w1 (.slice (some ⟨w.heap.size, 0, none⟩) 1 1) [r] ∧ Below w.heap.size w w1) := ⟨h1, HS.out.step hb1, HB0.out.trans (hb1.mono HB0.out.size)⟩
  clear h1 hb1
  go_wp2_with fail
  refine (HEq.out w1 v1 H1.out.1 H1.out.2.1).mono ?_
  rintro e w2 ⟨rfl, hb2⟩
  have HB2 := hd (H1.out.2.2.trans (hb2.mono H1.out.2.2.size))
  clear hb2
  go_wp2_with fail
  go_ret
  exact ⟨rfl, HB2.out⟩

/-- Is it one from the first to the last? -/
def wiB (r a b : Int) : Bool := decide (a ≤ r ∧ r ≤ b)
set_option maxHeartbeats 1000000 in
theorem wi_any (r a b : Int) (w : World) : Calls Try.prog 34 #[.int .i32 r, .int .i32 a, .int .i32 b] w fun e w' => e = .returned (.bool (wiB r a b)) ∧ w' = w := by
  by_cases h1 : a ≤ r
  · by_cases h2 : r ≤ b
    · have HE : Hid (wiB r a b = true) := decide_eq_true ⟨h1, h2⟩
      go_enter Try.func34, Try.ntmps34
      go_wp2_with fail
      go_ret
      exact ⟨ret_bool HE.out.symm, rfl⟩
    · have HE : Hid (wiB r a b = false) := decide_eq_false (fun h => h2 h.2)
      go_enter Try.func34, Try.ntmps34
      go_wp2_with fail
      go_ret
      exact ⟨ret_bool HE.out.symm, rfl⟩
  · have HE : Hid (wiB r a b = false) := decide_eq_false (fun h => h1 h.1)
    go_enter Try.func34, Try.ntmps34
    go_wp2_with fail
    go_ret
    exact ⟨ret_bool HE.out.symm, rfl⟩

/-- What is said of single code points. -/
def exP (r : Int) : Int :=
  if r = 223 ∨ r = 962 ∨ r = 1789 ∨ r = 1790 ∨ r = 12295 then 1
  else if r = 183 ∨ r = 885 ∨ r = 1523 ∨ r = 1524 ∨ r = 12539 ∨ (1632 ≤ r ∧ r ≤ 1641) ∨ (1776 ≤ r ∧ r ≤ 1785) then 3
  else if r = 1600 ∨ (12337 ≤ r ∧ r ≤ 12341) ∨ r = 12347 then 4 else 0
set_option maxHeartbeats 4000000 in
theorem exc_any (r : Int) (w : World) : Calls Try.prog 18 #[.int .i32 r] w fun e w' => e = .returned (.int .i64 (exP r)) ∧ w' = w := by
  by_cases h0 : r = 223
  · have HE : Hid (exP r = 1) := by show _ = _; unfold exP; rw [if_pos (by omega)]
    have p : (r == 223) = true := by rw [beq_iff_eq]; exact h0
    clear h0
    go_enter Try.func18, Try.ntmps18
    go_wp2_with (go_at_call 34; refine (wi_any _ _ _ _).mono ?_; rintro e w1 ⟨rfl, rfl⟩)
    go_ret
    exact ⟨ret_int HE.out.symm, rfl⟩
  by_cases h1 : r = 962
  · have HE : Hid (exP r = 1) := by show _ = _; unfold exP; rw [if_pos (by omega)]
    have q0 : (r == 223) = false := by rw [beq_eq_false_iff_ne]; omega
    have p : (r == 962) = true := by rw [beq_iff_eq]; exact h1
    clear h1
    clear h0
    go_enter Try.func18, Try.ntmps18
    go_wp2_with (go_at_call 34; refine (wi_any _ _ _ _).mono ?_; rintro e w1 ⟨rfl, rfl⟩)
    go_ret
    exact ⟨ret_int HE.out.symm, rfl⟩
  by_cases h2 : r = 1789
  · have HE : Hid (exP r = 1) := by show _ = _; unfold exP; rw [if_pos (by omega)]
    have q0 : (r == 223) = false := by rw [beq_eq_false_iff_ne]; omega
    have q1 : (r == 962) = false := by rw [beq_eq_false_iff_ne]; omega
    have p : (r == 1789) = true := by rw [beq_iff_eq]; exact h2
    clear h2
    clear h0 h1
    go_enter Try.func18, Try.ntmps18
    go_wp2_with (go_at_call 34; refine (wi_any _ _ _ _).mono ?_; rintro e w1 ⟨rfl, rfl⟩)
    go_ret
    exact ⟨ret_int HE.out.symm, rfl⟩
  by_cases h3 : r = 1790
  · have HE : Hid (exP r = 1) := by show _ = _; unfold exP; rw [if_pos (by omega)]
    have q0 : (r == 223) = false := by rw [beq_eq_false_iff_ne]; omega
    have q1 : (r == 962) = false := by rw [beq_eq_false_iff_ne]; omega
    have q2 : (r == 1789) = false := by rw [beq_eq_false_iff_ne]; omega
    have p : (r == 1790) = true := by rw [beq_iff_eq]; exact h3
    clear h3
    clear h0 h1 h2
    go_enter Try.func18, Try.ntmps18
    go_wp2_with (go_at_call 34; refine (wi_any _ _ _ _).mono ?_; rintro e w1 ⟨rfl, rfl⟩)
    go_ret
    exact ⟨ret_int HE.out.symm, rfl⟩
  by_cases h4 : r = 12295
  · have HE : Hid (exP r = 1) := by show _ = _; unfold exP; rw [if_pos (by omega)]
    have q0 : (r == 223) = false := by rw [beq_eq_false_iff_ne]; omega
    have q1 : (r == 962) = false := by rw [beq_eq_false_iff_ne]; omega
    have q2 : (r == 1789) = false := by rw [beq_eq_false_iff_ne]; omega
    have q3 : (r == 1790) = false := by rw [beq_eq_false_iff_ne]; omega
    have p : (r == 12295) = true := by rw [beq_iff_eq]; exact h4
    clear h4
    clear h0 h1 h2 h3
    go_enter Try.func18, Try.ntmps18
    go_wp2_with (go_at_call 34; refine (wi_any _ _ _ _).mono ?_; rintro e w1 ⟨rfl, rfl⟩)
    go_ret
    exact ⟨ret_int HE.out.symm, rfl⟩
  by_cases h5 : r = 183
  · have HE : Hid (exP r = 3) := by show _ = _; unfold exP; rw [if_neg (by omega), if_pos (by omega)]
    have q0 : (r == 223) = false := by rw [beq_eq_false_iff_ne]; omega
    have q1 : (r == 962) = false := by rw [beq_eq_false_iff_ne]; omega
    have q2 : (r == 1789) = false := by rw [beq_eq_false_iff_ne]; omega
    have q3 : (r == 1790) = false := by rw [beq_eq_false_iff_ne]; omega
    have q4 : (r == 12295) = false := by rw [beq_eq_false_iff_ne]; omega
    have p : (r == 183) = true := by rw [beq_iff_eq]; exact h5
    clear h5
    clear h0 h1 h2 h3 h4
    go_enter Try.func18, Try.ntmps18
    go_wp2_with (go_at_call 34; refine (wi_any _ _ _ _).mono ?_; rintro e w1 ⟨rfl, rfl⟩)
    go_ret
    exact ⟨ret_int HE.out.symm, rfl⟩
  by_cases h6 : r = 885
  · have HE : Hid (exP r = 3) := by show _ = _; unfold exP; rw [if_neg (by omega), if_pos (by omega)]
    have q0 : (r == 223) = false := by rw [beq_eq_false_iff_ne]; omega
    have q1 : (r == 962) = false := by rw [beq_eq_false_iff_ne]; omega
    have q2 : (r == 1789) = false := by rw [beq_eq_false_iff_ne]; omega
    have q3 : (r == 1790) = false := by rw [beq_eq_false_iff_ne]; omega
    have q4 : (r == 12295) = false := by rw [beq_eq_false_iff_ne]; omega
    have q5 : (r == 183) = false := by rw [beq_eq_false_iff_ne]; omega
    have p : (r == 885) = true := by rw [beq_iff_eq]; exact h6
    clear h6
    clear h0 h1 h2 h3 h4 h5
    go_enter Try.func18, Try.ntmps18
    go_wp2_with (go_at_call 34; refine (wi_any _ _ _ _).mono ?_; rintro e w1 ⟨rfl, rfl⟩)
    go_ret
    exact ⟨ret_int HE.out.symm, rfl⟩
  by_cases h7 : r = 1523
  · have HE : Hid (exP r = 3) := by show _ = _; unfold exP; rw [if_neg (by omega), if_pos (by omega)]
    have q0 : (r == 223) = false := by rw [beq_eq_false_iff_ne]; omega
    have q1 : (r == 962) = false := by rw [beq_eq_false_iff_ne]; omega
    have q2 : (r == 1789) = false := by rw [beq_eq_false_iff_ne]; omega
    have q3 : (r == 1790) = false := by rw [beq_eq_false_iff_ne]; omega
    have q4 : (r == 12295) = false := by rw [beq_eq_false_iff_ne]; omega
    have q5 : (r == 183) = false := by rw [beq_eq_false_iff_ne]; omega
    have q6 : (r == 885) = false := by rw [beq_eq_false_iff_ne]; omega
    have p : (r == 1523) = true := by rw [beq_iff_eq]; exact h7
    clear h7
    clear h0 h1 h2 h3 h4 h5 h6
    go_enter Try.func18, Try.ntmps18
    go_wp2_with (go_at_call 34; refine (wi_any _ _ _ _).mono ?_; rintro e w1 ⟨rfl, rfl⟩)
    go_ret
    exact ⟨ret_int HE.out.symm, rfl⟩
  by_cases h8 : r = 1524
  · have HE : Hid (exP r = 3) := by show _ = _; unfold exP; rw [if_neg (by omega), if_pos (by omega)]
    have q0 : (r == 223) = false := by rw [beq_eq_false_iff_ne]; omega
    have q1 : (r == 962) = false := by rw [beq_eq_false_iff_ne]; omega
    have q2 : (r == 1789) = false := by rw [beq_eq_false_iff_ne]; omega
    have q3 : (r == 1790) = false := by rw [beq_eq_false_iff_ne]; omega
    have q4 : (r == 12295) = false := by rw [beq_eq_false_iff_ne]; omega
    have q5 : (r == 183) = false := by rw [beq_eq_false_iff_ne]; omega
    have q6 : (r == 885) = false := by rw [beq_eq_false_iff_ne]; omega
    have q7 : (r == 1523) = false := by rw [beq_eq_false_iff_ne]; omega
    have p : (r == 1524) = true := by rw [beq_iff_eq]; exact h8
    clear h8
    clear h0 h1 h2 h3 h4 h5 h6 h7
    go_enter Try.func18, Try.ntmps18
    go_wp2_with (go_at_call 34; refine (wi_any _ _ _ _).mono ?_; rintro e w1 ⟨rfl, rfl⟩)
    go_ret
    exact ⟨ret_int HE.out.symm, rfl⟩
  by_cases h9 : r = 12539
  · have HE : Hid (exP r = 3) := by show _ = _; unfold exP; rw [if_neg (by omega), if_pos (by omega)]
    have q0 : (r == 223) = false := by rw [beq_eq_false_iff_ne]; omega
    have q1 : (r == 962) = false := by rw [beq_eq_false_iff_ne]; omega
    have q2 : (r == 1789) = false := by rw [beq_eq_false_iff_ne]; omega
    have q3 : (r == 1790) = false := by rw [beq_eq_false_iff_ne]; omega
    have q4 : (r == 12295) = false := by rw [beq_eq_false_iff_ne]; omega
    have q5 : (r == 183) = false := by rw [beq_eq_false_iff_ne]; omega
    have q6 : (r == 885) = false := by rw [beq_eq_false_iff_ne]; omega
    have q7 : (r == 1523) = false := by rw [beq_eq_false_iff_ne]; omega
    have q8 : (r == 1524) = false := by rw [beq_eq_false_iff_ne]; omega
    have p : (r == 12539) = true := by rw [beq_iff_eq]; exact h9
    clear h9
    clear h0 h1 h2 h3 h4 h5 h6 h7 h8
    go_enter Try.func18, Try.ntmps18
    go_wp2_with (go_at_call 34; refine (wi_any _ _ _ _).mono ?_; rintro e w1 ⟨rfl, rfl⟩)
    go_ret
    exact ⟨ret_int HE.out.symm, rfl⟩
  by_cases h10 : 1632 ≤ r ∧ r ≤ 1641
  · have HE : Hid (exP r = 3) := by show _ = _; unfold exP; rw [if_neg (by omega), if_pos (by omega)]
    have q0 : (r == 223) = false := by rw [beq_eq_false_iff_ne]; omega
    have q1 : (r == 962) = false := by rw [beq_eq_false_iff_ne]; omega
    have q2 : (r == 1789) = false := by rw [beq_eq_false_iff_ne]; omega
    have q3 : (r == 1790) = false := by rw [beq_eq_false_iff_ne]; omega
    have q4 : (r == 12295) = false := by rw [beq_eq_false_iff_ne]; omega
    have q5 : (r == 183) = false := by rw [beq_eq_false_iff_ne]; omega
    have q6 : (r == 885) = false := by rw [beq_eq_false_iff_ne]; omega
    have q7 : (r == 1523) = false := by rw [beq_eq_false_iff_ne]; omega
    have q8 : (r == 1524) = false := by rw [beq_eq_false_iff_ne]; omega
    have q9 : (r == 12539) = false := by rw [beq_eq_false_iff_ne]; omega
    have p : wiB r 1632 1641 = true := decide_eq_true h10
    clear h10
    clear h0 h1 h2 h3 h4 h5 h6 h7 h8 h9
    go_enter Try.func18, Try.ntmps18
    go_wp2_with (go_at_call 34; refine (wi_any _ _ _ _).mono ?_; rintro e w1 ⟨rfl, rfl⟩)
    go_ret
    exact ⟨ret_int HE.out.symm, rfl⟩
  by_cases h11 : 1776 ≤ r ∧ r ≤ 1785
  · have HE : Hid (exP r = 3) := by show _ = _; unfold exP; rw [if_neg (by omega), if_pos (by omega)]
    have q0 : (r == 223) = false := by rw [beq_eq_false_iff_ne]; omega
    have q1 : (r == 962) = false := by rw [beq_eq_false_iff_ne]; omega
    have q2 : (r == 1789) = false := by rw [beq_eq_false_iff_ne]; omega
    have q3 : (r == 1790) = false := by rw [beq_eq_false_iff_ne]; omega
    have q4 : (r == 12295) = false := by rw [beq_eq_false_iff_ne]; omega
    have q5 : (r == 183) = false := by rw [beq_eq_false_iff_ne]; omega
    have q6 : (r == 885) = false := by rw [beq_eq_false_iff_ne]; omega
    have q7 : (r == 1523) = false := by rw [beq_eq_false_iff_ne]; omega
    have q8 : (r == 1524) = false := by rw [beq_eq_false_iff_ne]; omega
    have q9 : (r == 12539) = false := by rw [beq_eq_false_iff_ne]; omega
    have q10 : wiB r 1632 1641 = false := decide_eq_false (by omega)
    have p : wiB r 1776 1785 = true := decide_eq_true h11
    clear h11
    clear h0 h1 h2 h3 h4 h5 h6 h7 h8 h9 h10
    go_enter Try.func18, Try.ntmps18
    go_wp2_with (go_at_call 34; refine (wi_any _ _ _ _).mono ?_; rintro e w1 ⟨rfl, rfl⟩)
    go_ret
    exact ⟨ret_int HE.out.symm, rfl⟩
  by_cases h12 : r = 1600
  · have HE : Hid (exP r = 4) := by show _ = _; unfold exP; rw [if_neg (by omega), if_neg (by omega), if_pos (by omega)]
    have q0 : (r == 223) = false := by rw [beq_eq_false_iff_ne]; omega
    have q1 : (r == 962) = false := by rw [beq_eq_false_iff_ne]; omega
    have q2 : (r == 1789) = false := by rw [beq_eq_false_iff_ne]; omega
    have q3 : (r == 1790) = false := by rw [beq_eq_false_iff_ne]; omega
    have q4 : (r == 12295) = false := by rw [beq_eq_false_iff_ne]; omega
    have q5 : (r == 183) = false := by rw [beq_eq_false_iff_ne]; omega
    have q6 : (r == 885) = false := by rw [beq_eq_false_iff_ne]; omega
    have q7 : (r == 1523) = false := by rw [beq_eq_false_iff_ne]; omega
    have q8 : (r == 1524) = false := by rw [beq_eq_false_iff_ne]; omega
    have q9 : (r == 12539) = false := by rw [beq_eq_false_iff_ne]; omega
    have q10 : wiB r 1632 1641 = false := decide_eq_false (by omega)
    have q11 : wiB r 1776 1785 = false := decide_eq_false (by omega)
    have p : (r == 1600) = true := by rw [beq_iff_eq]; exact h12
    clear h12
    clear h0 h1 h2 h3 h4 h5 h6 h7 h8 h9 h10 h11
    go_enter Try.func18, Try.ntmps18
    go_wp2_with (go_at_call 34; refine (wi_any _ _ _ _).mono ?_; rintro e w1 ⟨rfl, rfl⟩)
    go_ret
    exact ⟨ret_int HE.out.symm, rfl⟩
  by_cases h13 : 12337 ≤ r ∧ r ≤ 12341
  · have HE : Hid (exP r = 4) := by show _ = _; unfold exP; rw [if_neg (by omega), if_neg (by omega), if_pos (by omega)]
    have q0 : (r == 223) = false := by rw [beq_eq_false_iff_ne]; omega
    have q1 : (r == 962) = false := by rw [beq_eq_false_iff_ne]; omega
    have q2 : (r == 1789) = false := by rw [beq_eq_false_iff_ne]; omega
    have q3 : (r == 1790) = false := by rw [beq_eq_false_iff_ne]; omega
    have q4 : (r == 12295) = false := by rw [beq_eq_false_iff_ne]; omega
    have q5 : (r == 183) = false := by rw [beq_eq_false_iff_ne]; omega
    have q6 : (r == 885) = false := by rw [beq_eq_false_iff_ne]; omega
    have q7 : (r == 1523) = false := by rw [beq_eq_false_iff_ne]; omega
    have q8 : (r == 1524) = false := by rw [beq_eq_false_iff_ne]; omega
    have q9 : (r == 12539) = false := by rw [beq_eq_false_iff_ne]; omega
    have q10 : wiB r 1632 1641 = false := decide_eq_false (by omega)
    have q11 : wiB r 1776 1785 = false := decide_eq_false (by omega)
    have q12 : (r == 1600) = false := by rw [beq_eq_false_iff_ne]; omega
    have p : wiB r 12337 12341 = true := decide_eq_true h13
    clear h13
    clear h0 h1 h2 h3 h4 h5 h6 h7 h8 h9 h10 h11 h12
    go_enter Try.func18, Try.ntmps18
    go_wp2_with (go_at_call 34; refine (wi_any _ _ _ _).mono ?_; rintro e w1 ⟨rfl, rfl⟩)
    go_ret
    exact ⟨ret_int HE.out.symm, rfl⟩
  by_cases h14 : r = 12347
  · have HE : Hid (exP r = 4) := by show _ = _; unfold exP; rw [if_neg (by omega), if_neg (by omega), if_pos (by omega)]
    have q0 : (r == 223) = false := by rw [beq_eq_false_iff_ne]; omega
    have q1 : (r == 962) = false := by rw [beq_eq_false_iff_ne]; omega
    have q2 : (r == 1789) = false := by rw [beq_eq_false_iff_ne]; omega
    have q3 : (r == 1790) = false := by rw [beq_eq_false_iff_ne]; omega
    have q4 : (r == 12295) = false := by rw [beq_eq_false_iff_ne]; omega
    have q5 : (r == 183) = false := by rw [beq_eq_false_iff_ne]; omega
    have q6 : (r == 885) = false := by rw [beq_eq_false_iff_ne]; omega
    have q7 : (r == 1523) = false := by rw [beq_eq_false_iff_ne]; omega
    have q8 : (r == 1524) = false := by rw [beq_eq_false_iff_ne]; omega
    have q9 : (r == 12539) = false := by rw [beq_eq_false_iff_ne]; omega
    have q10 : wiB r 1632 1641 = false := decide_eq_false (by omega)
    have q11 : wiB r 1776 1785 = false := decide_eq_false (by omega)
    have q12 : (r == 1600) = false := by rw [beq_eq_false_iff_ne]; omega
    have q13 : wiB r 12337 12341 = false := decide_eq_false (by omega)
    have p : (r == 12347) = true := by rw [beq_iff_eq]; exact h14
    clear h14
    clear h0 h1 h2 h3 h4 h5 h6 h7 h8 h9 h10 h11 h12 h13
    go_enter Try.func18, Try.ntmps18
    go_wp2_with (go_at_call 34; refine (wi_any _ _ _ _).mono ?_; rintro e w1 ⟨rfl, rfl⟩)
    go_ret
    exact ⟨ret_int HE.out.symm, rfl⟩
  have HE : Hid (exP r = 0) := by show _ = _; unfold exP; rw [if_neg (by omega), if_neg (by omega), if_neg (by omega)]
  have q0 : (r == 223) = false := by rw [beq_eq_false_iff_ne]; omega
  have q1 : (r == 962) = false := by rw [beq_eq_false_iff_ne]; omega
  have q2 : (r == 1789) = false := by rw [beq_eq_false_iff_ne]; omega
  have q3 : (r == 1790) = false := by rw [beq_eq_false_iff_ne]; omega
  have q4 : (r == 12295) = false := by rw [beq_eq_false_iff_ne]; omega
  have q5 : (r == 183) = false := by rw [beq_eq_false_iff_ne]; omega
  have q6 : (r == 885) = false := by rw [beq_eq_false_iff_ne]; omega
  have q7 : (r == 1523) = false := by rw [beq_eq_false_iff_ne]; omega
  have q8 : (r == 1524) = false := by rw [beq_eq_false_iff_ne]; omega
  have q9 : (r == 12539) = false := by rw [beq_eq_false_iff_ne]; omega
  have q10 : wiB r 1632 1641 = false := decide_eq_false (by omega)
  have q11 : wiB r 1776 1785 = false := decide_eq_false (by omega)
  have q12 : (r == 1600) = false := by rw [beq_eq_false_iff_ne]; omega
  have q13 : wiB r 12337 12341 = false := decide_eq_false (by omega)
  have q14 : (r == 12347) = false := by rw [beq_eq_false_iff_ne]; omega
  clear h0 h1 h2 h3 h4 h5 h6 h7 h8 h9 h10 h11 h12 h13 h14
  go_enter Try.func18, Try.ntmps18
  go_wp2_with (go_at_call 34; refine (wi_any _ _ _ _).mono ?_; rintro e w1 ⟨rfl, rfl⟩)
  go_ret
  exact ⟨ret_int HE.out.symm, rfl⟩

/-- What a kind is worth where nothing else is said. -/
def okP (k : Int) : Int := if 2 ≤ k ∧ k ≤ 7 then 1 else 4
set_option maxHeartbeats 2000000 in
theorem ofk_any (k : Int) (w : World) : Calls Try.prog 36 #[.int .i64 k] w fun e w' => e = .returned (.int .i64 (okP k)) ∧ w' = w := by
  by_cases h2 : k = 2
  · subst h2
    go_enter Try.func36, Try.ntmps36
    go_wp2_with fail
    go_ret
    exact ⟨rfl, rfl⟩
  by_cases h3 : k = 3
  · subst h3
    go_enter Try.func36, Try.ntmps36
    go_wp2_with fail
    go_ret
    exact ⟨rfl, rfl⟩
  by_cases h4 : k = 4
  · subst h4
    go_enter Try.func36, Try.ntmps36
    go_wp2_with fail
    go_ret
    exact ⟨rfl, rfl⟩
  by_cases h5 : k = 5
  · subst h5
    go_enter Try.func36, Try.ntmps36
    go_wp2_with fail
    go_ret
    exact ⟨rfl, rfl⟩
  by_cases h6 : k = 6
  · subst h6
    go_enter Try.func36, Try.ntmps36
    go_wp2_with fail
    go_ret
    exact ⟨rfl, rfl⟩
  by_cases h7 : k = 7
  · subst h7
    go_enter Try.func36, Try.ntmps36
    go_wp2_with fail
    go_ret
    exact ⟨rfl, rfl⟩
  have HE : Hid (okP k = 4) := if_neg (by omega)
  have q2 : (k == 2) = false := by rw [beq_eq_false_iff_ne]; omega
  have q3 : (k == 3) = false := by rw [beq_eq_false_iff_ne]; omega
  have q4 : (k == 4) = false := by rw [beq_eq_false_iff_ne]; omega
  have q5 : (k == 5) = false := by rw [beq_eq_false_iff_ne]; omega
  have q6 : (k == 6) = false := by rw [beq_eq_false_iff_ne]; omega
  have q7 : (k == 7) = false := by rw [beq_eq_false_iff_ne]; omega
  go_enter Try.func36, Try.ntmps36
  go_wp2_with fail
  go_ret
  exact ⟨ret_int HE.out.symm, rfl⟩

/-- A judge in memory. -/
structure Jd (w : World) (j b f p d u s : Nat) : Prop where
  blk : w.heap[j]? = some (.cells #[.pointer (some ⟨b, 0, none⟩), .pointer (some ⟨f, 0, none⟩)] 75)
  bk : Bk w b
  fm : Fm w f b p d u s
theorem Jd.step {w w' : World} {j b f p d u s : Nat} (h : Jd w j b f p d u s) (hb : Below w.heap.size w w') : Jd w' j b f p d u s :=
  ⟨(hb.block j (Array.getElem?_eq_some_iff.1 h.blk).1).trans h.blk, h.bk.step hb, h.fm.step hb⟩
theorem Jd.cells {w : World} {j b f p d u s : Nat} (h : Jd w j b f p d u s) : w.cell? ⟨j, 0, none⟩ = some (.pointer (some ⟨b, 0, none⟩)) ∧ w.cell? ⟨j, 1, none⟩ = some (.pointer (some ⟨f, 0, none⟩)) := by
  unfold World.cell?
  rw [h.blk]
  exact ⟨rfl, rfl⟩
def odB (r : Int) : Bool := decide (r = 170 ∨ r = 181 ∨ r = 186 ∨ r = 307 ∨ r = 320 ∨ r = 329 ∨ r = 383 ∨ r = 837)
/-- Does it stand for another one? -/
def unB (r : Int) : Bool := odB r || (knP r == 1) || (Pr.widP r != r) || !stB r
set_option maxRecDepth 100000 in
set_option maxHeartbeats 4000000 in
theorem uns_any {w : World} {j b f p d u s : Nat} (hJ : Jd w j b f p d u s) (r : Int) (hr : Pr.I32 r) :
    Calls Try.prog 35 #[.pointer (some ⟨j, 0, none⟩), .int .i32 r] w fun e w' => e = .returned (.bool (unB r)) ∧ Below w.heap.size w w' := by
  have HK := hd (fun (W : World) (h : Below w.heap.size w W) => knd_any (hJ.bk.step h) r)
  have HW := hd (fun (W : World) => Pr.wid_any r W hr)
  have HS := hd (fun (W : World) (h : Below w.heap.size w W) => stab_any (hJ.fm.step h) hr)
  have HC := hd (fun (W : World) (h : Below w.heap.size w W) => (hJ.step h).cells)
  have HB := hd (Below.refl w.heap.size w)
  have HU : Hid (unB r = (odB r || (knP r == 1) || (Pr.widP r != r) || !stB r)) := rfl
  clear hJ hr
  generalize knP r = k at *
  generalize Pr.widP r = x at *
  generalize stB r = t at *
  by_cases h0 : r = 170
  · have HE : Hid (unB r = true) := by show _ = _; rw [HU.out, show odB r = true from decide_eq_true (by omega)]; rfl
    have p : (r == 170) = true := by rw [beq_iff_eq]; exact h0
    clear h0
    clear HU
    go_enter Try.func35, Try.ntmps35
    go_wp2_with fail
    go_ret
    exact ⟨ret_bool HE.out.symm, HB.out⟩
  by_cases h1 : r = 181
  · have HE : Hid (unB r = true) := by show _ = _; rw [HU.out, show odB r = true from decide_eq_true (by omega)]; rfl
    have q0 : (r == 170) = false := by rw [beq_eq_false_iff_ne]; omega
    have p : (r == 181) = true := by rw [beq_iff_eq]; exact h1
    clear h0 h1
    clear HU
    go_enter Try.func35, Try.ntmps35
    go_wp2_with fail
    go_ret
    exact ⟨ret_bool HE.out.symm, HB.out⟩
  by_cases h2 : r = 186
  · have HE : Hid (unB r = true) := by show _ = _; rw [HU.out, show odB r = true from decide_eq_true (by omega)]; rfl
    have q0 : (r == 170) = false := by rw [beq_eq_false_iff_ne]; omega
    have q1 : (r == 181) = false := by rw [beq_eq_false_iff_ne]; omega
    have p : (r == 186) = true := by rw [beq_iff_eq]; exact h2
    clear h0 h1 h2
    clear HU
    go_enter Try.func35, Try.ntmps35
    go_wp2_with fail
    go_ret
    exact ⟨ret_bool HE.out.symm, HB.out⟩
  by_cases h3 : r = 307
  · have HE : Hid (unB r = true) := by show _ = _; rw [HU.out, show odB r = true from decide_eq_true (by omega)]; rfl
    have q0 : (r == 170) = false := by rw [beq_eq_false_iff_ne]; omega
    have q1 : (r == 181) = false := by rw [beq_eq_false_iff_ne]; omega
    have q2 : (r == 186) = false := by rw [beq_eq_false_iff_ne]; omega
    have p : (r == 307) = true := by rw [beq_iff_eq]; exact h3
    clear h0 h1 h2 h3
    clear HU
    go_enter Try.func35, Try.ntmps35
    go_wp2_with fail
    go_ret
    exact ⟨ret_bool HE.out.symm, HB.out⟩
  by_cases h4 : r = 320
  · have HE : Hid (unB r = true) := by show _ = _; rw [HU.out, show odB r = true from decide_eq_true (by omega)]; rfl
    have q0 : (r == 170) = false := by rw [beq_eq_false_iff_ne]; omega
    have q1 : (r == 181) = false := by rw [beq_eq_false_iff_ne]; omega
    have q2 : (r == 186) = false := by rw [beq_eq_false_iff_ne]; omega
    have q3 : (r == 307) = false := by rw [beq_eq_false_iff_ne]; omega
    have p : (r == 320) = true := by rw [beq_iff_eq]; exact h4
    clear h0 h1 h2 h3 h4
    clear HU
    go_enter Try.func35, Try.ntmps35
    go_wp2_with fail
    go_ret
    exact ⟨ret_bool HE.out.symm, HB.out⟩
  by_cases h5 : r = 329
  · have HE : Hid (unB r = true) := by show _ = _; rw [HU.out, show odB r = true from decide_eq_true (by omega)]; rfl
    have q0 : (r == 170) = false := by rw [beq_eq_false_iff_ne]; omega
    have q1 : (r == 181) = false := by rw [beq_eq_false_iff_ne]; omega
    have q2 : (r == 186) = false := by rw [beq_eq_false_iff_ne]; omega
    have q3 : (r == 307) = false := by rw [beq_eq_false_iff_ne]; omega
    have q4 : (r == 320) = false := by rw [beq_eq_false_iff_ne]; omega
    have p : (r == 329) = true := by rw [beq_iff_eq]; exact h5
    clear h0 h1 h2 h3 h4 h5
    clear HU
    go_enter Try.func35, Try.ntmps35
    go_wp2_with fail
    go_ret
    exact ⟨ret_bool HE.out.symm, HB.out⟩
  by_cases h6 : r = 383
  · have HE : Hid (unB r = true) := by show _ = _; rw [HU.out, show odB r = true from decide_eq_true (by omega)]; rfl
    have q0 : (r == 170) = false := by rw [beq_eq_false_iff_ne]; omega
    have q1 : (r == 181) = false := by rw [beq_eq_false_iff_ne]; omega
    have q2 : (r == 186) = false := by rw [beq_eq_false_iff_ne]; omega
    have q3 : (r == 307) = false := by rw [beq_eq_false_iff_ne]; omega
    have q4 : (r == 320) = false := by rw [beq_eq_false_iff_ne]; omega
    have q5 : (r == 329) = false := by rw [beq_eq_false_iff_ne]; omega
    have p : (r == 383) = true := by rw [beq_iff_eq]; exact h6
    clear h0 h1 h2 h3 h4 h5 h6
    clear HU
    go_enter Try.func35, Try.ntmps35
    go_wp2_with fail
    go_ret
    exact ⟨ret_bool HE.out.symm, HB.out⟩
  by_cases h7 : r = 837
  · have HE : Hid (unB r = true) := by show _ = _; rw [HU.out, show odB r = true from decide_eq_true (by omega)]; rfl
    have q0 : (r == 170) = false := by rw [beq_eq_false_iff_ne]; omega
    have q1 : (r == 181) = false := by rw [beq_eq_false_iff_ne]; omega
    have q2 : (r == 186) = false := by rw [beq_eq_false_iff_ne]; omega
    have q3 : (r == 307) = false := by rw [beq_eq_false_iff_ne]; omega
    have q4 : (r == 320) = false := by rw [beq_eq_false_iff_ne]; omega
    have q5 : (r == 329) = false := by rw [beq_eq_false_iff_ne]; omega
    have q6 : (r == 383) = false := by rw [beq_eq_false_iff_ne]; omega
    have p : (r == 837) = true := by rw [beq_iff_eq]; exact h7
    clear h0 h1 h2 h3 h4 h5 h6 h7
    clear HU
    go_enter Try.func35, Try.ntmps35
    go_wp2_with fail
    go_ret
    exact ⟨ret_bool HE.out.symm, HB.out⟩
  have q0 : (r == 170) = false := by rw [beq_eq_false_iff_ne]; omega
  have q1 : (r == 181) = false := by rw [beq_eq_false_iff_ne]; omega
  have q2 : (r == 186) = false := by rw [beq_eq_false_iff_ne]; omega
  have q3 : (r == 307) = false := by rw [beq_eq_false_iff_ne]; omega
  have q4 : (r == 320) = false := by rw [beq_eq_false_iff_ne]; omega
  have q5 : (r == 329) = false := by rw [beq_eq_false_iff_ne]; omega
  have q6 : (r == 383) = false := by rw [beq_eq_false_iff_ne]; omega
  have q7 : (r == 837) = false := by rw [beq_eq_false_iff_ne]; omega
  have ho : odB r = false := decide_eq_false (by omega)
  rw [ho, Bool.false_or] at HU
  clear ho h0 h1 h2 h3 h4 h5 h6 h7
  by_cases hk : k = 1
  · subst hk
    have HE : Hid (unB r = true) := by show _ = _; rw [HU.out]; rfl
    obtain ⟨c0, c1⟩ := HC.out w HB.out
    go_enter Try.func35, Try.ntmps35
    go_wp2_with fail
    refine (HK.out w HB.out).mono ?_
    rintro e w1 ⟨rfl, hb1⟩
    replace HB := hd (HB.out.trans (hb1.mono HB.out.size))
    clear hb1
    go_wp2_with fail
    go_ret
    exact ⟨ret_bool HE.out.symm, HB.out⟩
  · have hk2 : (k == 1) = false := by rw [beq_eq_false_iff_ne]; exact hk
    rw [hk2, Bool.false_or] at HU
    by_cases hx : x = r
    · have hx2 : (x != r) = false := by rw [bne_eq_false_iff_eq]; exact hx
      rw [hx2, Bool.false_or] at HU
      have HE : Hid (unB r = !t) := HU.out
      clear HU
      obtain ⟨c0, c1⟩ := HC.out w HB.out
      go_enter Try.func35, Try.ntmps35
      go_wp2_with fail
      refine (HK.out w HB.out).mono ?_
      rintro e w1 ⟨rfl, hb1⟩
      replace HB := hd (HB.out.trans (hb1.mono HB.out.size))
      clear hb1
      go_wp2_with fail
      refine (HW.out _).mono ?_
      rintro e w2 ⟨rfl, hb2⟩
      replace HB := hd (HB.out.trans (hb2.mono HB.out.size))
      clear hb2
      obtain ⟨d0, d1⟩ := HC.out _ HB.out
      go_wp2_with fail
      refine (HS.out _ HB.out).mono ?_
      rintro e w3 ⟨rfl, hb3⟩
      replace HB := hd (HB.out.trans (hb3.mono HB.out.size))
      clear hb3
      cases t
      · go_wp2_with fail
        go_ret
        exact ⟨ret_bool HE.out.symm, HB.out⟩
      · go_wp2_with fail
        go_ret
        exact ⟨ret_bool HE.out.symm, HB.out⟩
    · have hx2 : (x != r) = true := by rw [bne_iff_ne]; exact hx
      have HE : Hid (unB r = true) := by show _ = _; rw [HU.out, hx2]; rfl
      clear HU
      obtain ⟨c0, c1⟩ := HC.out w HB.out
      go_enter Try.func35, Try.ntmps35
      go_wp2_with fail
      refine (HK.out w HB.out).mono ?_
      rintro e w1 ⟨rfl, hb1⟩
      replace HB := hd (HB.out.trans (hb1.mono HB.out.size))
      clear hb1
      go_wp2_with fail
      refine (HW.out _).mono ?_
      rintro e w2 ⟨rfl, hb2⟩
      replace HB := hd (HB.out.trans (hb2.mono HB.out.size))
      clear hb2
      go_wp2_with fail
      go_ret
      exact ⟨ret_bool HE.out.symm, HB.out⟩

/-- What a code point is. -/
def ofP (r : Int) : Int :=
  if exP r ≠ 0 then exP r else if knP r = 0 then 5 else if r = 45 ∨ (48 ≤ r ∧ r ≤ 57) ∨ (97 ≤ r ∧ r ≤ 122) then 1
  else if r = 8204 ∨ r = 8205 then 2 else if unB r = true ∨ (4352 ≤ r ∧ r ≤ 4607) then 4 else okP (knP r)
set_option maxRecDepth 100000 in
set_option maxHeartbeats 4000000 in
theorem of_any {w : World} {j b f p d u s : Nat} (hJ : Jd w j b f p d u s) (r : Int) (hr : Pr.I32 r) :
    Calls Try.prog 13 #[.pointer (some ⟨j, 0, none⟩), .int .i32 r] w fun e w' => e = .returned (.int .i64 (ofP r)) ∧ Below w.heap.size w w' := by
  have HK := hd (knd_any hJ.bk r)
  have HX := hd (fun (W : World) => exc_any r W)
  have HUn := hd (fun (W : World) (h : Below w.heap.size w W) => uns_any (hJ.step h) r hr)
  have HOk := hd (fun (k : Int) (W : World) => ofk_any k W)
  have HC := hd hJ.cells
  have HO : Hid (ofP r = if exP r ≠ 0 then exP r else if knP r = 0 then 5 else if r = 45 ∨ (48 ≤ r ∧ r ≤ 57) ∨ (97 ≤ r ∧ r ≤ 122) then 1 else if r = 8204 ∨ r = 8205 then 2 else if unB r = true ∨ (4352 ≤ r ∧ r ≤ 4607) then 4 else okP (knP r)) := rfl
  clear hJ hr
  generalize exP r = x at *
  generalize knP r = k at *
  generalize unB r = t at *
  obtain ⟨c0, c1⟩ := HC.out
  go_enter Try.func13, Try.ntmps13
  go_wp2_with fail
  refine HK.out.mono ?_
  rintro e w1 ⟨rfl, hb1⟩
  have HB := hd hb1
  clear hb1
  go_wp2_with fail
  refine (HX.out _).mono ?_
  rintro e w2 ⟨rfl, rfl⟩
  clear HK HX HC c0 c1
  by_cases hx : x ≠ 0
  · have HE : Hid (ofP r = x) := by show _ = _; rw [HO.out, if_pos hx]
    have hx2 : (x == 0) = false := by rw [beq_eq_false_iff_ne]; exact hx
    have hx3 : (x != 0) = true := by rw [bne_iff_ne]; exact hx
    go_wp2_with (go_at_call 34; refine (wi_any _ _ _ _).mono ?_; rintro e w3 ⟨rfl, rfl⟩)
    go_ret
    exact ⟨ret_int HE.out.symm, HB.out⟩
  have hx0 : x = 0 := by omega
  subst hx0
  by_cases hk : k = 0
  · have HE : Hid (ofP r = 5) := by show _ = _; rw [HO.out, if_neg (by simp), if_pos hk]
    subst hk
    go_wp2_with (go_at_call 34; refine (wi_any _ _ _ _).mono ?_; rintro e w3 ⟨rfl, rfl⟩)
    go_ret
    exact ⟨ret_int HE.out.symm, HB.out⟩
  have hk2 : (k == 0) = false := by rw [beq_eq_false_iff_ne]; exact hk
  by_cases h1 : r = 45
  · have HE : Hid (ofP r = 1) := by show _ = _; rw [HO.out, if_neg (by simp), if_neg hk, if_pos (by omega)]
    have p : (r == 45) = true := by rw [beq_iff_eq]; exact h1
    go_wp2_with (go_at_call 34; refine (wi_any _ _ _ _).mono ?_; rintro e w3 ⟨rfl, rfl⟩)
    go_ret
    exact ⟨ret_int HE.out.symm, HB.out⟩
  have q1 : (r == 45) = false := by rw [beq_eq_false_iff_ne]; exact h1
  by_cases h2 : 48 ≤ r ∧ r ≤ 57
  · have HE : Hid (ofP r = 1) := by show _ = _; rw [HO.out, if_neg (by simp), if_neg hk, if_pos (by omega)]
    have p : wiB r 48 57 = true := decide_eq_true h2
    go_wp2_with (go_at_call 34; refine (wi_any _ _ _ _).mono ?_; rintro e w3 ⟨rfl, rfl⟩)
    go_ret
    exact ⟨ret_int HE.out.symm, HB.out⟩
  have q2 : wiB r 48 57 = false := decide_eq_false h2
  by_cases h3 : 97 ≤ r ∧ r ≤ 122
  · have HE : Hid (ofP r = 1) := by show _ = _; rw [HO.out, if_neg (by simp), if_neg hk, if_pos (by omega)]
    have p : wiB r 97 122 = true := decide_eq_true h3
    go_wp2_with (go_at_call 34; refine (wi_any _ _ _ _).mono ?_; rintro e w3 ⟨rfl, rfl⟩)
    go_ret
    exact ⟨ret_int HE.out.symm, HB.out⟩
  have q3 : wiB r 97 122 = false := decide_eq_false h3
  by_cases h4 : r = 8204
  · have HE : Hid (ofP r = 2) := by show _ = _; rw [HO.out, if_neg (by simp), if_neg hk, if_neg (by omega), if_pos (by omega)]
    have p : (r == 8204) = true := by rw [beq_iff_eq]; exact h4
    go_wp2_with (go_at_call 34; refine (wi_any _ _ _ _).mono ?_; rintro e w3 ⟨rfl, rfl⟩)
    go_ret
    exact ⟨ret_int HE.out.symm, HB.out⟩
  have q4 : (r == 8204) = false := by rw [beq_eq_false_iff_ne]; exact h4
  by_cases h5 : r = 8205
  · have HE : Hid (ofP r = 2) := by show _ = _; rw [HO.out, if_neg (by simp), if_neg hk, if_neg (by omega), if_pos (by omega)]
    have p : (r == 8205) = true := by rw [beq_iff_eq]; exact h5
    go_wp2_with (go_at_call 34; refine (wi_any _ _ _ _).mono ?_; rintro e w3 ⟨rfl, rfl⟩)
    go_ret
    exact ⟨ret_int HE.out.symm, HB.out⟩
  have q5 : (r == 8205) = false := by rw [beq_eq_false_iff_ne]; exact h5
  cases t
  · by_cases h6 : 4352 ≤ r ∧ r ≤ 4607
    · have HE : Hid (ofP r = 4) := by show _ = _; rw [HO.out, if_neg (by simp), if_neg hk, if_neg (by omega), if_neg (by omega), if_pos (.inr h6)]
      have p : wiB r 4352 4607 = true := decide_eq_true h6
      go_wp2_with (go_at_call 34; refine (wi_any _ _ _ _).mono ?_; rintro e w3 ⟨rfl, rfl⟩)
      refine (HUn.out _ HB.out).mono ?_
      rintro e w4 ⟨rfl, hb4⟩
      replace HB := hd (HB.out.trans (hb4.mono HB.out.size))
      clear hb4
      go_wp2_with (go_at_call 34; refine (wi_any _ _ _ _).mono ?_; rintro e w3 ⟨rfl, rfl⟩)
      go_ret
      exact ⟨ret_int HE.out.symm, HB.out⟩
    · have q6 : wiB r 4352 4607 = false := decide_eq_false h6
      have HE : Hid (ofP r = okP k) := by show _ = _; rw [HO.out, if_neg (by simp), if_neg hk, if_neg (by omega), if_neg (by omega), if_neg (fun h => h.elim (by simp) h6)]
      go_wp2_with (go_at_call 34; refine (wi_any _ _ _ _).mono ?_; rintro e w3 ⟨rfl, rfl⟩)
      refine (HUn.out _ HB.out).mono ?_
      rintro e w4 ⟨rfl, hb4⟩
      replace HB := hd (HB.out.trans (hb4.mono HB.out.size))
      clear hb4
      go_wp2_with (go_at_call 34; refine (wi_any _ _ _ _).mono ?_; rintro e w3 ⟨rfl, rfl⟩)
      refine (HOk.out _ _).mono ?_
      rintro e w5 ⟨rfl, rfl⟩
      go_wp2_with fail
      go_ret
      exact ⟨ret_int HE.out.symm, HB.out⟩
  · have HE : Hid (ofP r = 4) := by show _ = _; rw [HO.out, if_neg (by simp), if_neg hk, if_neg (by omega), if_neg (by omega), if_pos (.inl rfl)]
    go_wp2_with (go_at_call 34; refine (wi_any _ _ _ _).mono ?_; rintro e w3 ⟨rfl, rfl⟩)
    refine (HUn.out _ HB.out).mono ?_
    rintro e w4 ⟨rfl, hb4⟩
    replace HB := hd (HB.out.trans (hb4.mono HB.out.size))
    clear hb4
    go_wp2_with (go_at_call 34; refine (wi_any _ _ _ _).mono ?_; rintro e w3 ⟨rfl, rfl⟩)
    go_ret
    exact ⟨ret_int HE.out.symm, HB.out⟩

/-- A new judge. -/
theorem jnew_any {w : World} {b p d u s : Nat} (hb : Bk w b) (hp : Pr.PW w p d u s Pr.allP 395) :
    Calls Try.prog 27 #[.pointer (some ⟨b, 0, none⟩), .pointer (some ⟨p, 0, none⟩)] w fun e w' => ∃ j f, e = .returned (.pointer (some ⟨j, 0, none⟩)) ∧ Jd w' j b f p d u s ∧ Below w.heap.size w w' := by
  have HN := hd (new_any' hb hp)
  have HB := hd hb
  clear hb hp
  go_enter Try.func27, Try.ntmps27
  go_wp2_with fail
  refine HN.out.mono ?_
  rintro e w1 ⟨f, rfl, h1, h2⟩
  have H1 := hd (And.intro h1 h2)
  have hB : Hid (Below w1.heap.size w1 (w1.alloc (.cells #[.pointer (some ⟨b, 0, none⟩), .pointer (some ⟨f, 0, none⟩)] 75))) := (Below.refl w1.heap.size w1).alloc (Nat.le_refl _) _
  clear h1 h2 HN
  go_wp2_with fail
  go_ret
  exact ⟨_, f, rfl, ⟨heap_alloc_new w1 _, (HB.out.step H1.out.2).step hB.out, H1.out.1.step hB.out⟩, H1.out.2.trans (hB.out.mono H1.out.2.size)⟩
set_option maxRecDepth 100000 in
set_option maxHeartbeats 2000000 in
theorem judge_any (w : World) : Calls Try.prog 8 #[] w fun e w' => ∃ j b f p d u s, e = .returned (.pointer (some ⟨j, 0, none⟩)) ∧ Jd w' j b f p d u s ∧ Below w.heap.size w w' := by
  have H1 := hd (newbook_any w)
  have H2 := hd (fun w => Pr.new_any w)
  have H3 := hd (fun (w1 : World) (b p d u s : Nat) (h1 : Bk w1 b) (h2 : Pr.PW w1 p d u s Pr.allP 395) => jnew_any h1 h2)
  go_enter Try.func8, Try.ntmps8
  go_wp2_with (first | (go_at_call 11; refine H1.out.mono ?_; rintro e w1 ⟨b, rfl, h1, h2⟩; have HA := hd (And.intro h1 h2); clear h1 h2) | (go_at_call 12; refine (H2.out _).mono ?_; rintro e w2 ⟨p, d, u, s, rfl, h1, h2⟩; have HB := hd (And.intro h1 h2); clear h1 h2) | (go_at_call 27; refine (H3.out w2 b p d u s (HA.out.2.step HB.out.2) HB.out.1).mono ?_; rintro e w3 ⟨j, f, rfl, h1, h2⟩; have HC := hd (And.intro h1 h2); clear h1 h2))
  go_ret
  exact ⟨j, b, f, p, d, u, s, rfl, HC.out.1, (HA.out.1.trans (HB.out.2.mono HA.out.1.size)).trans (HC.out.2.mono (Nat.le_trans HA.out.1.size HB.out.2.size))⟩
end De
end Go.Proofs.Ytbamhbfncddieaa

namespace Go.Proofs.Ytbamhbfncddieaa
namespace De
open Go.RowKit Od Nf

/-- A kind by the rows. -/
def knF (r : Int) : Int := (Uc.trOf (Uc.findL r Uc.allT) r).a
theorem kn_eq (r : Int) : knP r = knF r := by
  unfold knP knF
  rw [Uc.book_tells, Uc.rrow_find]
def spL : List Int := [1789, 1790, 12295, 45] ++ ((List.range 10).map fun (n : Nat) => (n : Int) + 48) ++ ((List.range 26).map fun (n : Nat) => (n : Int) + 97)
theorem sp_ck : spL.all (fun r => stB r && decide (Pr.widP r = r) && decide (knF r ≠ 1) && (decide (exP r = 1) || decide (r = 45) || decide (2 ≤ knF r ∧ knF r ≤ 7))) = true := by kernel_rfl
theorem sp_mem {r : Int} (h : r = 1789 ∨ r = 1790 ∨ r = 12295 ∨ r = 45 ∨ (48 ≤ r ∧ r ≤ 57) ∨ (97 ≤ r ∧ r ≤ 122)) : r ∈ spL := by
  unfold spL
  rw [List.mem_append, List.mem_append]
  rcases h with h | h | h | h | h | h
  · left; left; subst h; simp
  · left; left; subst h; simp
  · left; left; subst h; simp
  · left; left; subst h; simp
  · left; right
    exact List.mem_map.2 ⟨(r - 48).toNat, List.mem_range.2 (by omega), by omega⟩
  · right
    exact List.mem_map.2 ⟨(r - 97).toNat, List.mem_range.2 (by omega), by omega⟩
theorem sp_of {r : Int} (h : r = 1789 ∨ r = 1790 ∨ r = 12295 ∨ r = 45 ∨ (48 ≤ r ∧ r ≤ 57) ∨ (97 ≤ r ∧ r ≤ 122)) : stB r = true ∧ Pr.widP r = r ∧ knP r ≠ 1 ∧ (exP r = 1 ∨ r = 45 ∨ (2 ≤ knP r ∧ knP r ≤ 7)) := by
  have h1 := List.all_eq_true.1 sp_ck r (sp_mem h)
  rw [Bool.and_eq_true, Bool.and_eq_true, Bool.and_eq_true, Bool.or_eq_true, Bool.or_eq_true, decide_eq_true_eq, decide_eq_true_eq, decide_eq_true_eq, decide_eq_true_eq, decide_eq_true_eq] at h1
  rw [kn_eq]
  exact ⟨h1.1.1.1, h1.1.1.2, h1.1.2, by rcases h1.2 with (h | h) | h; exact .inl h; exact .inr (.inl h); exact .inr (.inr h)⟩
theorem ex_bd (r : Int) : exP r = 0 ∨ exP r = 1 ∨ exP r = 3 ∨ exP r = 4 := by
  unfold exP
  split
  · exact .inr (.inl rfl)
  · split
    · exact .inr (.inr (.inl rfl))
    · split
      · exact .inr (.inr (.inr rfl))
      · exact .inl rfl
theorem ok_bd (k : Int) : okP k = 1 ∨ okP k = 4 := by
  unfold okP
  split
  · exact .inl rfl
  · exact .inr rfl
theorem of_bd (r : Int) : 1 ≤ ofP r ∧ ofP r ≤ 5 := by
  have h1 := ex_bd r
  have h2 := ok_bd (knP r)
  unfold ofP
  split
  · omega
  · split
    · omega
    · split
      · omega
      · split
        · omega
        · split <;> omega
theorem ex_one {r : Int} (h : exP r = 1) : r = 223 ∨ r = 962 ∨ r = 1789 ∨ r = 1790 ∨ r = 12295 := by
  unfold exP at h
  split at h
  · assumption
  · split at h
    · cases h
    · split at h <;> cases h
/-- What is valid. -/
theorem of_one {r : Int} (h : ofP r = 1) : (r = 223 ∨ r = 962) ∨ (r = 1789 ∨ r = 1790 ∨ r = 12295 ∨ r = 45 ∨ (48 ≤ r ∧ r ≤ 57) ∨ (97 ≤ r ∧ r ≤ 122)) ∨ (unB r = false ∧ 2 ≤ knP r ∧ knP r ≤ 7) := by
  unfold ofP at h
  split at h
  · rename_i h0
    have := ex_one h
    omega
  · split at h
    · cases h
    · split at h
      · rename_i h1
        exact .inr (.inl (by omega))
      · split at h
        · cases h
        · split at h
          · cases h
          · rename_i h2
            refine .inr (.inr ⟨?_, ?_⟩)
            · cases hu : unB r
              · rfl
              · exact absurd (.inl hu) h2
            · unfold okP at h
              split at h
              · assumption
              · cases h
theorem of_kinds {r : Int} (h : ofP r = 1) (h1 : r ≠ 45) (h2 : exP r = 0) : 2 ≤ knP r ∧ knP r ≤ 7 := by
  rcases of_one h with h3 | h3 | h3
  · exfalso
    unfold exP at h2
    rw [if_pos (by omega)] at h2
    cases h2
  · rcases (sp_of h3).2.2.2 with h4 | h4 | h4
    · omega
    · exact absurd h4 h1
    · exact h4
  · exact h3.2
theorem of_un {r : Int} (h : knP r = 0) (h2 : exP r = 0) : ofP r = 5 := by
  unfold ofP
  rw [if_neg (by omega), if_pos h]
theorem un_parts {r : Int} (h : unB r = false) : knP r ≠ 1 ∧ Pr.widP r = r ∧ stB r = true := by
  unfold unB at h
  rw [Bool.or_eq_false_iff, Bool.or_eq_false_iff, Bool.or_eq_false_iff, beq_eq_false_iff_ne, bne_eq_false_iff_eq, Bool.not_eq_false'] at h
  exact ⟨h.1.1.2, h.1.2, h.2⟩
def inS (x : Pr.S4) : Bool := (List.range (((x.2.1 - x.1) / x.2.2.1).toNat + 1)).all (fun n => decide (knF (x.1 + x.2.2.1 * (n : Int)) = 1))
theorem low_ck : Pr.spanT.all inS = true := by kernel_rfl
theorem low_or (r : Int) : ∀ (l : List Pr.S4), Pr.lowP r l = r ∨ ∃ x ∈ l, x.1 ≤ r ∧ r ≤ x.2.1 ∧ (r - x.1) % x.2.2.1 = 0
  | [] => .inl rfl
  | x :: l => by
    rw [Pr.lowP]
    split
    · rename_i h
      exact .inr ⟨x, by simp, h⟩
    · rcases low_or r l with h | ⟨y, h1, h2⟩
      · exact .inl h
      · exact .inr ⟨y, by simp [h1], h2⟩
theorem low_up {r : Int} (h : knP r ≠ 1) : Pr.lowP r Pr.spanT = r := by
  rcases low_or r Pr.spanT with h1 | ⟨x, h1, h2, h3, h4⟩
  · exact h1
  · exfalso
    have hb := Pr.span_bd x h1
    have hs := List.all_eq_true.1 low_ck x h1
    unfold inS at hs
    have hq : 0 ≤ (r - x.1) / x.2.2.1 := Int.ediv_nonneg (by omega) (by omega)
    have hle : (r - x.1) / x.2.2.1 ≤ (x.2.1 - x.1) / x.2.2.1 := Int.ediv_le_ediv (by omega) (by omega)
    have hm := List.all_eq_true.1 hs ((r - x.1) / x.2.2.1).toNat (List.mem_range.2 (by omega))
    rw [decide_eq_true_eq, Int.toNat_of_nonneg hq] at hm
    have he := Int.mul_ediv_add_emod (r - x.1) x.2.2.1
    rw [h4, Int.add_zero] at he
    rw [he, show x.1 + (r - x.1) = r by omega, ← kn_eq] at hm
    exact h hm
theorem of_lower {r : Int} (h : ofP r = 1) (h1 : r ≠ 223) (h2 : r ≠ 962) : Pr.lowP r Pr.spanT = r ∧ stB r = true ∧ Pr.widP r = r := by
  rcases of_one h with h3 | h3 | h3
  · omega
  · have h4 := sp_of h3
    exact ⟨low_up h4.2.2.1, h4.1, h4.2.1⟩
  · have h4 := un_parts h3.1
    exact ⟨low_up h4.1, h4.2.2, h4.2.1⟩
theorem dw1 : ofP 97 = 1 := by kernel_rfl
theorem dw2 : ofP 65 = 4 := by kernel_rfl
theorem dw3 : ofP 233 = 1 := by kernel_rfl
theorem dw4 : ofP 183 = 3 := by kernel_rfl
theorem dw5 : ofP 8205 = 2 := by kernel_rfl
theorem dw6 : ofP 3585 = 5 := by kernel_rfl
set_option maxRecDepth 100000 in
set_option maxHeartbeats 4000000 in
theorem awake12_any {w : World} {j b f p d u s : Nat} (hJ : Jd w j b f p d u s) : Calls Try.prog 9 #[.pointer (some ⟨j, 0, none⟩)] w fun e w' => e = .returned (.bool true) ∧ Below w.heap.size w w' := by
  have HO := hd (fun (W : World) (r x : Int) (h : Below w.heap.size w W) (hr : Pr.I32 r) (e : ofP r = x) => show Calls Try.prog 13 #[.pointer (some ⟨j, 0, none⟩), .int .i32 r] W fun e w' => e = .returned (.int .i64 x) ∧ Below W.heap.size W w' from e ▸ of_any (hJ.step h) r hr)
  have HB := hd (Below.refl w.heap.size w)
  clear hJ
  go_enter Try.func9, Try.ntmps9
  go_wp2_with fail
  refine (HO.out _ 97 1 HB.out (by unfold Pr.I32; omega) dw1).mono ?_
  rintro e w1 ⟨rfl, hb⟩
  replace HB := hd (HB.out.trans (hb.mono HB.out.size))
  clear hb
  go_wp2_with fail
  refine (HO.out _ 65 4 HB.out (by unfold Pr.I32; omega) dw2).mono ?_
  rintro e w1 ⟨rfl, hb⟩
  replace HB := hd (HB.out.trans (hb.mono HB.out.size))
  clear hb
  go_wp2_with fail
  refine (HO.out _ 233 1 HB.out (by unfold Pr.I32; omega) dw3).mono ?_
  rintro e w1 ⟨rfl, hb⟩
  replace HB := hd (HB.out.trans (hb.mono HB.out.size))
  clear hb
  go_wp2_with fail
  refine (HO.out _ 183 3 HB.out (by unfold Pr.I32; omega) dw4).mono ?_
  rintro e w1 ⟨rfl, hb⟩
  replace HB := hd (HB.out.trans (hb.mono HB.out.size))
  clear hb
  go_wp2_with fail
  refine (HO.out _ 8205 2 HB.out (by unfold Pr.I32; omega) dw5).mono ?_
  rintro e w1 ⟨rfl, hb⟩
  replace HB := hd (HB.out.trans (hb.mono HB.out.size))
  clear hb
  go_wp2_with fail
  refine (HO.out _ 3585 5 HB.out (by unfold Pr.I32; omega) dw6).mono ?_
  rintro e w1 ⟨rfl, hb⟩
  replace HB := hd (HB.out.trans (hb.mono HB.out.size))
  clear hb
  go_wp2_with fail
  go_ret
  exact ⟨rfl, HB.out⟩
end De
end Go.Proofs.Ytbamhbfncddieaa
