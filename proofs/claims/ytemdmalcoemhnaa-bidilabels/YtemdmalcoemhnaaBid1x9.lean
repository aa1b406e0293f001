import Derived.Test.YtemdmalcoemhnaaBase
import Derived.Test.YtemdmalcoemhnaaOrd19
import Derived.Deep.Slices
import Derived.ChangeSame
import Derived.OpenShut
namespace Go.Proofs.Ytemdmalcoemhnaa
namespace Bi
open Go.RowKit

/-- The bit of a direction. -/
def oneN (d : Int) : Nat := 2 ^ d.toNat
theorem or16 (a b : Nat) (ha : a < 65536) (hb : b < 65536) : bits .or .u16 (a : Int) (b : Int) = ((a ||| b : Nat) : Int) := by
  have hx : a ||| b < 2 ^ 16 := Nat.or_lt_two_pow (by omega) (by omega)
  have h1 : (BitVec.ofInt 16 (a : Int)).toNat = a := by
    rw [BitVec.ofInt_natCast, BitVec.toNat_ofNat]; exact Nat.mod_eq_of_lt (by omega)
  have h2 : (BitVec.ofInt 16 (b : Int)).toNat = b := by
    rw [BitVec.ofInt_natCast, BitVec.toNat_ofNat]; exact Nat.mod_eq_of_lt (by omega)
  show IntKind.u16.wrap ((BitVec.ofInt 16 (a : Int) ||| BitVec.ofInt 16 (b : Int)).toNat : Int) = _
  rw [BitVec.toNat_or, h1, h2, IntKind.wrap_u16]
  omega
theorem and16 (a b : Nat) (ha : a < 65536) (hb : b < 65536) : bits .and .u16 (a : Int) (b : Int) = ((a &&& b : Nat) : Int) := by
  have hx : a &&& b < 2 ^ 16 := Nat.and_lt_two_pow _ (by omega)
  have h1 : (BitVec.ofInt 16 (a : Int)).toNat = a := by
    rw [BitVec.ofInt_natCast, BitVec.toNat_ofNat]; exact Nat.mod_eq_of_lt (by omega)
  have h2 : (BitVec.ofInt 16 (b : Int)).toNat = b := by
    rw [BitVec.ofInt_natCast, BitVec.toNat_ofNat]; exact Nat.mod_eq_of_lt (by omega)
  show IntKind.u16.wrap ((BitVec.ofInt 16 (a : Int) &&& BitVec.ofInt 16 (b : Int)).toNat : Int) = _
  rw [BitVec.toNat_and, h1, h2, IntKind.wrap_u16]
  omega
theorem andn16 (a b : Nat) (ha : a < 65536) (hb : b < 65536) : bits .andNot .u16 (a : Int) (b : Int) = ((a &&& (65535 - b) : Nat) : Int) := by
  have hx : a &&& (65535 - b) < 2 ^ 16 := Nat.and_lt_two_pow _ (by omega)
  have h1 : (BitVec.ofInt 16 (a : Int)).toNat = a := by
    rw [BitVec.ofInt_natCast, BitVec.toNat_ofNat]; exact Nat.mod_eq_of_lt (by omega)
  have h2 : (BitVec.ofInt 16 (b : Int)).toNat = b := by
    rw [BitVec.ofInt_natCast, BitVec.toNat_ofNat]; exact Nat.mod_eq_of_lt (by omega)
  show IntKind.u16.wrap ((BitVec.ofInt 16 (a : Int) &&& ~~~ BitVec.ofInt 16 (b : Int)).toNat : Int) = _
  rw [BitVec.toNat_and, BitVec.toNat_not, h1, h2, IntKind.wrap_u16]
  show (((a &&& (65535 - b) : Nat) : Int) % 65536) = _
  omega

def smN (s m : Nat) : Bool := !(s &&& m == 0)
def wiN (s m : Nat) : Bool := s &&& (65535 - m) == 0
def fstN : List Int → Nat
  | [] => 0
  | d :: _ => oneN d
def allN (ds : List Int) : Nat := ds.foldl (fun a d => a ||| oneN d) 0
def lastN (ds : List Int) : Nat := ds.foldl (fun a d => if oneN d = 256 then a else oneN d) 0
def lastD (ds : List Int) : Int := ds.foldl (fun a d => if d = 8 then a else d) (-1)
def rgN (a l : Nat) : Int := if wiN a 2046 = false then 2 else if smN l 78 = false then 3 else if wiN 72 a = true then 4 else 0
def lfN (a l : Nat) : Int := if wiN a 1977 = false then 5 else if smN l 9 = false then 6 else 0
/-- What a view's three sets say, and what is said of directions: the first condition that is broken. -/
def brN (f a l : Nat) : Int := if smN f 7 = false then 1 else if smN f 6 = true then rgN a l else lfN a l
def inR : List Int := [1, 2, 6, 3, 4, 7, 5, 10, 9, 8]
def inL : List Int := [0, 3, 4, 7, 5, 10, 9, 8]
def allB (ds may : List Int) : Bool := ds.all (fun d => decide (d ∈ may))
def brD (ds : List Int) : Int :=
  match ds with
  | [] => 1
  | d :: _ => if d = 0 then (if allB ds inL = false then 5 else if lastD ds ∈ [0, 3] then 0 else 6)
    else if d = 1 ∨ d = 2 then (if allB ds inR = false then 2 else if ¬ lastD ds ∈ [1, 2, 3, 6] then 3 else if 3 ∈ ds ∧ 6 ∈ ds then 4 else 0) else 1
def rtD (ds : List Int) : Bool := decide (1 ∈ ds) || decide (2 ∈ ds) || decide (6 ∈ ds)
def Dir (d : Int) : Prop := 0 ≤ d ∧ d ≤ 11

theorem one_lt {d : Int} (h : Dir d) : oneN d < 4096 := by
  unfold oneN
  have : d.toNat < 12 := by have := h.1; have := h.2; omega
  exact Nat.pow_lt_pow_right (a := 2) (n := 12) (by omega) this
theorem all_lt : ∀ (ds : List Int) (a : Nat), a < 4096 → (∀ d ∈ ds, Dir d) → ds.foldl (fun a d => a ||| oneN d) a < 4096
  | [], a, h, _ => h
  | d :: ds, a, h, hd => by
    rw [List.foldl_cons]
    exact all_lt ds _ (Nat.or_lt_two_pow (n := 12) h (one_lt (hd d List.mem_cons_self))) (fun x hx => hd x (List.mem_cons_of_mem _ hx))
theorem allN_lt {ds : List Int} (h : ∀ d ∈ ds, Dir d) : allN ds < 4096 := all_lt ds 0 (by omega) h
theorem all_bit (j : Nat) : ∀ (ds : List Int) (a : Nat), (∀ d ∈ ds, Dir d) → (ds.foldl (fun a d => a ||| oneN d) a).testBit j = (a.testBit j || decide ((j : Int) ∈ ds))
  | [], a, _ => by simp
  | d :: ds, a, hd => by
    have h0 := hd d List.mem_cons_self
    rw [List.foldl_cons, all_bit j ds _ (fun x hx => hd x (List.mem_cons_of_mem _ hx)), Nat.testBit_or, oneN, Nat.testBit_two_pow, Bool.or_assoc]
    congr 1
    have e : (d.toNat = j) = ((j : Int) = d) := by have := h0.1; apply propext; omega
    rw [Bool.eq_iff_iff, Bool.or_eq_true, decide_eq_true_eq, decide_eq_true_eq, decide_eq_true_eq, List.mem_cons, e]
theorem allN_bit (j : Nat) {ds : List Int} (h : ∀ d ∈ ds, Dir d) : (allN ds).testBit j = decide ((j : Int) ∈ ds) := by
  unfold allN
  rw [all_bit j ds 0 h]; simp
def ck (s : Nat) : Bool := (wiN s 2046 == (!s.testBit 0 && !s.testBit 11)) && (wiN s 1977 == (!s.testBit 1 && !s.testBit 2 && !s.testBit 6 && !s.testBit 11)) && (wiN 72 s == (s.testBit 3 && s.testBit 6)) && (smN s 70 == (s.testBit 1 || s.testBit 2 || s.testBit 6))
set_option maxRecDepth 100000 in
theorem ck_all : (List.range 4096).all ck = true := by kernel_rfl
theorem ck_at (s : Nat) (h : s < 4096) : wiN s 2046 = (!s.testBit 0 && !s.testBit 11) ∧ wiN s 1977 = (!s.testBit 1 && !s.testBit 2 && !s.testBit 6 && !s.testBit 11) ∧ wiN 72 s = (s.testBit 3 && s.testBit 6) ∧ smN s 70 = (s.testBit 1 || s.testBit 2 || s.testBit 6) := by
  have h1 := List.all_eq_true.1 ck_all s (List.mem_range.2 h)
  unfold ck at h1
  rw [Bool.and_eq_true, Bool.and_eq_true, Bool.and_eq_true, beq_iff_eq, beq_iff_eq, beq_iff_eq, beq_iff_eq] at h1
  exact ⟨h1.1.1.1, h1.1.1.2, h1.1.2, h1.2⟩
theorem dir_cases {d : Int} (h : Dir d) : d = 0 ∨ d = 1 ∨ d = 2 ∨ d = 3 ∨ d = 4 ∨ d = 5 ∨ d = 6 ∨ d = 7 ∨ d = 8 ∨ d = 9 ∨ d = 10 ∨ d = 11 := by
  have := h.1; have := h.2; omega
theorem all_r {ds : List Int} (h : ∀ d ∈ ds, Dir d) : allB ds inR = (!decide (0 ∈ ds) && !decide (11 ∈ ds)) := by
  unfold allB
  rw [Bool.eq_iff_iff, List.all_eq_true, Bool.and_eq_true, Bool.not_eq_true', Bool.not_eq_true', decide_eq_false_iff_not, decide_eq_false_iff_not]
  constructor
  · intro H
    exact ⟨fun m => absurd (H 0 m) (by decide), fun m => absurd (H 11 m) (by decide)⟩
  · rintro ⟨a, b⟩ d hd
    rcases dir_cases (h d hd) with rfl | rfl | rfl | rfl | rfl | rfl | rfl | rfl | rfl | rfl | rfl | rfl <;> first | exact absurd hd a | exact absurd hd b | decide
theorem all_l {ds : List Int} (h : ∀ d ∈ ds, Dir d) : allB ds inL = (!decide (1 ∈ ds) && !decide (2 ∈ ds) && !decide (6 ∈ ds) && !decide (11 ∈ ds)) := by
  unfold allB
  rw [Bool.eq_iff_iff, List.all_eq_true]
  simp only [Bool.and_eq_true, Bool.not_eq_true', decide_eq_false_iff_not]
  constructor
  · intro H
    exact ⟨⟨⟨fun m => absurd (H 1 m) (by decide), fun m => absurd (H 2 m) (by decide)⟩, fun m => absurd (H 6 m) (by decide)⟩, fun m => absurd (H 11 m) (by decide)⟩
  · rintro ⟨⟨⟨a, b⟩, c⟩, e⟩ d hd
    rcases dir_cases (h d hd) with rfl | rfl | rfl | rfl | rfl | rfl | rfl | rfl | rfl | rfl | rfl | rfl <;> first | exact absurd hd a | exact absurd hd b | exact absurd hd c | exact absurd hd e | decide
def lnOf (d : Int) : Nat := if d = -1 then 0 else oneN d
theorem last_fold : ∀ (ds : List Int) (a : Nat) (e : Int), (∀ d ∈ ds, Dir d) → a = lnOf e → (e = -1 ∨ Dir e) → ds.foldl (fun a d => if oneN d = 256 then a else oneN d) a = lnOf (ds.foldl (fun a d => if d = 8 then a else d) e) ∧ (ds.foldl (fun a d => if d = 8 then a else d) e = -1 ∨ Dir (ds.foldl (fun a d => if d = 8 then a else d) e))
  | [], _, _, _, h, h' => ⟨h, h'⟩
  | d :: ds, a, e, hd, h, h' => by
    rw [List.foldl_cons, List.foldl_cons]
    have h0 := hd d List.mem_cons_self
    refine last_fold ds _ _ (fun x hx => hd x (List.mem_cons_of_mem _ hx)) ?_ ?_
    · by_cases e8 : d = 8
      · subst e8; rw [if_pos (by decide), if_pos rfl]; exact h
      · have hne : oneN d ≠ 256 := by
          rcases dir_cases h0 with rfl | rfl | rfl | rfl | rfl | rfl | rfl | rfl | rfl | rfl | rfl | rfl <;> first | exact absurd rfl e8 | decide
        rw [if_neg hne, if_neg e8, lnOf, if_neg (by have := h0.1; omega)]
    · by_cases e8 : d = 8
      · rw [if_pos e8]; exact h'
      · rw [if_neg e8]; exact .inr h0
theorem last_eq {ds : List Int} (h : ∀ d ∈ ds, Dir d) : lastN ds = lnOf (lastD ds) ∧ (lastD ds = -1 ∨ Dir (lastD ds)) := last_fold ds 0 (-1) h rfl (.inl rfl)
theorem sm_last (e : Int) (h : e = -1 ∨ Dir e) : smN (lnOf e) 78 = decide (e ∈ [1, 2, 3, 6]) ∧ smN (lnOf e) 9 = decide (e ∈ [0, 3]) := by
  rcases h with rfl | h
  · decide
  · rcases dir_cases h with rfl | rfl | rfl | rfl | rfl | rfl | rfl | rfl | rfl | rfl | rfl | rfl <;> decide
theorem sm_first (e : Int) (h : Dir e) : smN (oneN e) 7 = decide (e = 0 ∨ e = 1 ∨ e = 2) ∧ smN (oneN e) 6 = decide (e = 1 ∨ e = 2) := by
  rcases dir_cases h with rfl | rfl | rfl | rfl | rfl | rfl | rfl | rfl | rfl | rfl | rfl | rfl <;> decide
theorem br_eq {ds : List Int} (h : ∀ d ∈ ds, Dir d) : brN (fstN ds) (allN ds) (lastN ds) = brD ds := by
  obtain ⟨c1, c2, c3, _⟩ := ck_at _ (allN_lt h)
  obtain ⟨l1, l2⟩ := last_eq h
  obtain ⟨s1, s2⟩ := sm_last _ l2
  rw [allN_bit 0 h, allN_bit 11 h] at c1
  rw [allN_bit 1 h, allN_bit 2 h, allN_bit 6 h, allN_bit 11 h] at c2
  rw [allN_bit 3 h, allN_bit 6 h] at c3
  replace c1 : wiN (allN ds) 2046 = allB ds inR := by rw [all_r h]; exact c1
  replace c2 : wiN (allN ds) 1977 = allB ds inL := by rw [all_l h]; exact c2
  have hr : rgN (allN ds) (lastN ds) = if allB ds inR = false then 2 else if ¬ lastD ds ∈ [1, 2, 3, 6] then 3 else if 3 ∈ ds ∧ 6 ∈ ds then 4 else 0 := by
    unfold rgN
    rw [c1, l1, s1, c3]
    simp only [decide_eq_false_iff_not, Bool.and_eq_true, decide_eq_true_eq]
    rfl
  have hl : lfN (allN ds) (lastN ds) = if allB ds inL = false then 5 else if lastD ds ∈ [0, 3] then 0 else 6 := by
    unfold lfN
    rw [c2, l1, s2]
    simp only [decide_eq_false_iff_not]
    rw [ite_not]
  unfold brN
  rw [hr, hl]
  match ds, h with
  | [], _ => rfl
  | d :: ds, h =>
    obtain ⟨f1, f2⟩ := sm_first d (h d List.mem_cons_self)
    rw [show fstN (d :: ds) = oneN d from rfl, f1, f2]
    simp only [brD]
    by_cases h0 : d = 0
    · subst h0; rfl
    · rw [if_neg h0]
      by_cases h1 : d = 1 ∨ d = 2
      · have e1 : decide (d = 0 ∨ d = 1 ∨ d = 2) = true := decide_eq_true (.inr h1)
        rw [e1, decide_eq_true h1, if_pos h1]; rfl
      · have e1 : decide (d = 0 ∨ d = 1 ∨ d = 2) = false := decide_eq_false (by omega)
        rw [e1, if_neg h1]; rfl
theorem rt_eq {ds : List Int} (h : ∀ d ∈ ds, Dir d) : smN (allN ds) 70 = rtD ds := by
  obtain ⟨_, _, _, c⟩ := ck_at _ (allN_lt h)
  rw [allN_bit 1 h, allN_bit 2 h, allN_bit 6 h] at c
  exact c
/-- Marks behind change nothing. -/
theorem marks_last (ds : List Int) : ∀ n, lastD (ds ++ List.replicate n 8) = lastD ds := by
  intro n
  unfold lastD
  rw [List.foldl_append]
  generalize ds.foldl (fun a d => if d = 8 then a else d) (-1) = a
  induction n with
  | zero => rfl
  | succ n ih => rw [List.replicate_succ, List.foldl_cons, if_pos rfl]; exact ih
theorem marks_mem (ds : List Int) (n : Nat) (x : Int) (hx : x ≠ 8) : (x ∈ ds ++ List.replicate n 8) = (x ∈ ds) := by
  rw [List.mem_append, List.mem_replicate]
  apply propext
  exact ⟨fun h => h.elim id (fun h => absurd h.2 hx), .inl⟩
theorem marks_all (ds may : List Int) (n : Nat) (h : decide ((8 : Int) ∈ may) = true) : allB (ds ++ List.replicate n 8) may = allB ds may := by
  unfold allB
  rw [List.all_append]
  have : (List.replicate n (8 : Int)).all (fun d => decide (d ∈ may)) = true := List.all_eq_true.2 (fun x hx => by rw [(List.mem_replicate.1 hx).2]; exact h)
  rw [this, Bool.and_true]
theorem marks_br (ds : List Int) (n : Nat) (h : ds ≠ []) : brD (ds ++ List.replicate n 8) = brD ds := by
  match ds, h with
  | d :: ds, _ =>
    rw [List.cons_append]
    simp only [brD]
    rw [← List.cons_append, marks_all _ _ _ (by decide), marks_all _ _ _ (by decide), marks_last]
    simp only [marks_mem (d :: ds) n 3 (by decide), marks_mem (d :: ds) n 6 (by decide)]
theorem marks_rt (ds : List Int) (n : Nat) : rtD (ds ++ List.replicate n 8) = rtD ds := by
  have e : ∀ x : Int, x ≠ 8 → decide (x ∈ ds ++ List.replicate n 8) = decide (x ∈ ds) := fun x hx => decide_eq_decide.2 (by rw [marks_mem ds n x hx])
  unfold rtD
  rw [e 1 (by decide), e 2 (by decide), e 6 (by decide)]
/-- A right-to-left label that breaks nothing begins with R or AL. -/
theorem br_rt {d : Int} {ds : List Int} (h : ∀ x ∈ d :: ds, Dir x) (h0 : brD (d :: ds) = 0) (hr : rtD (d :: ds) = true) : d = 1 ∨ d = 2 := by
  simp only [brD] at h0
  by_cases e : d = 0
  · rw [if_pos e] at h0
    by_cases a : allB (d :: ds) inL = false
    · rw [if_pos a] at h0; omega
    · have a' : allB (d :: ds) inL = true := by simpa using a
      rw [all_l h] at a'
      simp only [Bool.and_eq_true, Bool.not_eq_true', decide_eq_false_iff_not] at a'
      unfold rtD at hr
      rw [Bool.or_eq_true, Bool.or_eq_true, decide_eq_true_eq, decide_eq_true_eq, decide_eq_true_eq] at hr
      exact absurd hr (fun x => x.elim (fun x => x.elim a'.1.1.1 a'.1.1.2) a'.1.2)
  · rw [if_neg e] at h0
    by_cases e2 : d = 1 ∨ d = 2
    · exact e2
    · rw [if_neg e2] at h0; omega
end Bi
end Go.Proofs.Ytemdmalcoemhnaa

namespace Go.Proofs.Ytemdmalcoemhnaa
namespace Bi
open Go.RowKit

theorem hr {p : Prop} (h : p) : Hid p := h
theorem sm_int (s m : Nat) : (!(((s &&& m : Nat) : Int) == 0)) = smN s m := by
  unfold smN
  congr 1
  rw [Bool.eq_iff_iff, beq_iff_eq, beq_iff_eq]; omega
theorem wi_int (s m : Nat) : (((s &&& (65535 - m) : Nat) : Int) == 0) = wiN s m := by
  unfold wiN
  rw [Bool.eq_iff_iff, beq_iff_eq, beq_iff_eq]; omega
theorem some_any (s m : Nat) (hs : s < 65536) (hm : m < 65536) (w : World) :
    Calls Try.prog 21 #[.int .u16 (s : Int), .int .u16 (m : Int)] w fun e w' => e = .returned (.bool (smN s m)) ∧ w' = w := by
  have h := and16 s m hs hm
  have HE := hr (sm_int s m)
  generalize ((s &&& m : Nat) : Int) = z at *
  clear hs hm
  go_enter Try.func21, Try.ntmps21
  go_wp2_with fail
  go_ret
  exact ⟨ret_bool HE.out, rfl⟩
theorem within_any (s m : Nat) (hs : s < 65536) (hm : m < 65536) (w : World) :
    Calls Try.prog 45 #[.int .u16 (s : Int), .int .u16 (m : Int)] w fun e w' => e = .returned (.bool (wiN s m)) ∧ w' = w := by
  have h := andn16 s m hs hm
  have HE := hr (wi_int s m)
  generalize ((s &&& (65535 - m) : Nat) : Int) = z at *
  clear hs hm
  go_enter Try.func45, Try.ntmps45
  go_wp2_with fail
  go_ret
  exact ⟨ret_bool HE.out, rfl⟩
/-- A view as a value. -/
def vwV (f a l : Nat) : Value := .agg #[.int .u16 (f : Int), .int .u16 (a : Int), .int .u16 (l : Int)]
set_option maxHeartbeats 4000000 in
theorem right_any (f a l : Nat) (ha : a < 65536) (hl : l < 65536) (w : World) :
    Calls Try.prog 22 #[vwV f a l] w fun e w' => e = .returned (.int .i64 (rgN a l)) ∧ Below w.heap.size w w' := by
  have HO := hr (Ok.start w)
  have H1 := hr (fun W => within_any a 2046 ha (by omega) W)
  have H2 := hr (fun W => some_any l 78 hl (by omega) W)
  have H3 := hr (fun W => within_any 72 a (by omega) ha W)
  unfold rgN vwV
  generalize wiN a 2046 = q1 at *
  generalize smN l 78 = q2 at *
  generalize wiN 72 a = q3 at *
  clear ha hl
  go_enter Try.func22, Try.ntmps22
  go_wp2_with fail
  refine (H1.out _).mono ?_
  rintro e w1 ⟨rfl, rfl⟩
  cases q1
  · go_wp2_with fail
    go_ret
    exact ⟨rfl, HO.out.alloc.1⟩
  go_wp2_with fail
  refine (H2.out _).mono ?_
  rintro e w1 ⟨rfl, rfl⟩
  cases q2
  · go_wp2_with fail
    go_ret
    exact ⟨rfl, HO.out.alloc.1⟩
  go_wp2_with fail
  refine (H3.out _).mono ?_
  rintro e w1 ⟨rfl, rfl⟩
  cases q3
  · go_wp2_with fail
    go_ret
    exact ⟨rfl, HO.out.alloc.1⟩
  go_wp2_with fail
  go_ret
  exact ⟨rfl, HO.out.alloc.1⟩
set_option maxHeartbeats 4000000 in
theorem left_any (f a l : Nat) (ha : a < 65536) (hl : l < 65536) (w : World) :
    Calls Try.prog 23 #[vwV f a l] w fun e w' => e = .returned (.int .i64 (lfN a l)) ∧ Below w.heap.size w w' := by
  have HO := hr (Ok.start w)
  have H1 := hr (fun W => within_any a 1977 ha (by omega) W)
  have H2 := hr (fun W => some_any l 9 hl (by omega) W)
  unfold lfN vwV
  generalize wiN a 1977 = q1 at *
  generalize smN l 9 = q2 at *
  clear ha hl
  go_enter Try.func23, Try.ntmps23
  go_wp2_with fail
  refine (H1.out _).mono ?_
  rintro e w1 ⟨rfl, rfl⟩
  cases q1
  · go_wp2_with fail
    go_ret
    exact ⟨rfl, HO.out.alloc.1⟩
  go_wp2_with fail
  refine (H2.out _).mono ?_
  rintro e w1 ⟨rfl, rfl⟩
  cases q2
  · go_wp2_with fail
    go_ret
    exact ⟨rfl, HO.out.alloc.1⟩
  go_wp2_with fail
  go_ret
  exact ⟨rfl, HO.out.alloc.1⟩
end Bi
end Go.Proofs.Ytemdmalcoemhnaa

namespace Go.Proofs.Ytemdmalcoemhnaa
namespace Bi
open Go.RowKit Od

/-- What the book says of a code point's direction. -/
def bdP (r : Int) : Int := (Uc.getV Uc.zTr Uc.bookL r).b
theorem bd_any {w : World} {b : Nat} (h : Bk w b) (r : Int) : Calls Try.prog 10 #[.pointer (some ⟨b, 0, none⟩), .int .i32 r] w fun e w' => e = .returned (.int .i64 (bdP r)) ∧ Below w.heap.size w w' := by
  obtain ⟨p, rv, hb⟩ := h
  exact Uc.bidi_any hb r
theorem book_bd : Uc.bookL.all (fun x => decide (0 ≤ x.v.b) && decide (x.v.b ≤ 11)) = true := by kernel_rfl
theorem bd_dir (r : Int) : Dir (bdP r) := by
  have h := Uc.get_or (fun x => decide (0 ≤ x.b) && decide (x.b ≤ 11)) Uc.bookL Uc.zTr r (by decide) book_bd
  rw [Bool.and_eq_true, decide_eq_true_eq, decide_eq_true_eq] at h
  exact h
theorem map_dir (X : List Int) : ∀ d ∈ X.map bdP, Dir d := fun d h => by
  obtain ⟨r, _, rfl⟩ := List.mem_map.1 h
  exact bd_dir r
/-- A view in memory. -/
def Vc (w : World) (v f a l : Nat) : Prop := w.heap[v]? = some (.cells #[.int .u16 (f : Int), .int .u16 (a : Int), .int .u16 (l : Int)] 56)
theorem Vc.lt {w : World} {v f a l : Nat} (h : Vc w v f a l) : v < w.heap.size := (Array.getElem?_eq_some_iff.1 h).1
theorem Vc.cells {w : World} {v f a l : Nat} (h : Vc w v f a l) : w.cell? ⟨v, 0, none⟩ = some (.int .u16 (f : Int)) ∧ w.cell? ⟨v, 1, none⟩ = some (.int .u16 (a : Int)) ∧ w.cell? ⟨v, 2, none⟩ = some (.int .u16 (l : Int)) := by
  unfold World.cell?
  rw [h]
  exact ⟨rfl, rfl, rfl⟩
theorem Vc.frozen {w : World} {v f a l : Nat} (h : Vc w v f a l) (i : Nat) : w.frozen? ⟨v, i, none⟩ = false := by
  unfold Vc at h
  simp [World.frozen?, h]
theorem Vc.step {w w' : World} {v f a l : Nat} (h : Vc w v f a l) (hb : Below w.heap.size w w') : Vc w' v f a l := (hb.block v h.lt).trans h
theorem heap_set {w : World} {v : Nat} {cs : Array Value} {t : TypeId} (h : w.heap[v]? = some (.cells cs t)) (i : Nat) (x : Value) : (w.setCell ⟨v, i, none⟩ x).heap[v]? = some (.cells (cs.setIfInBounds i x) t) := by
  show (w.heap.modify v _)[v]? = _
  rw [Array.getElem?_modify]
  simp [h]
theorem Vc.other {w : World} {v f a l g : Nat} (h : Vc w v f a l) (i : Nat) (x : Value) (hg : v ≠ g) : Vc (w.setCell ⟨g, i, none⟩ x) v f a l := (Below.heap_setCell _ _ _ _ hg).trans h
theorem Vc.set0 {w : World} {v f a l : Nat} (h : Vc w v f a l) (x : Nat) : Vc (w.setCell ⟨v, 0, none⟩ (.int .u16 (x : Int))) v x a l := heap_set h 0 _
theorem Vc.set1 {w : World} {v f a l : Nat} (h : Vc w v f a l) (x : Nat) : Vc (w.setCell ⟨v, 1, none⟩ (.int .u16 (x : Int))) v f x l := heap_set h 1 _
theorem Vc.set2 {w : World} {v f a l : Nat} (h : Vc w v f a l) (x : Nat) : Vc (w.setCell ⟨v, 2, none⟩ (.int .u16 (x : Int))) v f a x := heap_set h 2 _
theorem ok_set {B : Nat} {W0 w : World} (h : Ok B W0 w) (v i : Nat) (hv : B ≤ v) (x : Value) : Ok B W0 (w.setCell ⟨v, i, none⟩ x) := ⟨h.1.setCell (p := ⟨v, i, none⟩) hv x, by simpa [World.setCell] using h.2⟩
theorem fst_snoc (ds : List Int) (d : Int) (h : ds ≠ []) : fstN (ds ++ [d]) = fstN ds := by
  match ds, h with
  | x :: xs, _ => rfl
theorem all_snoc (ds : List Int) (d : Int) : allN (ds ++ [d]) = allN ds ||| oneN d := by unfold allN; rw [List.foldl_append]; rfl
theorem last_snoc (ds : List Int) (d : Int) : lastN (ds ++ [d]) = if oneN d = 256 then lastN ds else oneN d := by unfold lastN; rw [List.foldl_append]; rfl
theorem pow16 {d : Int} (h : Dir d) : IntKind.u16.wrap ((2 : Int) ^ d.toNat) = ((oneN d : Nat) : Int) := by
  rw [IntKind.wrap_u16]
  rcases dir_cases h with rfl | rfl | rfl | rfl | rfl | rfl | rfl | rfl | rfl | rfl | rfl | rfl <;> rfl
/-- What a round of looking keeps. -/
structure Lk (w : World) (X : List Int) (k : Nat) (W : World) : Prop where
  v : Vc W (w.heap.size + 1) (fstN ((X.take k).map bdP)) (allN ((X.take k).map bdP)) (lastN ((X.take k).map bdP))
  r : Vc W w.heap.size 0 0 0
  ok : Ok w.heap.size w W
set_option maxRecDepth 100000 in
set_option maxHeartbeats 4000000 in
theorem look_any {w : World} {b : Nat} (hB : Bk w b) {ao : Option Addr} {n cap : Nat} {X : List Int} (hX : X.length = n) (hS : SlP .i32 w ao cap X) (hn : n ≤ 1000000) :
    Calls Try.prog 20 #[.pointer (some ⟨b, 0, none⟩), .slice ao n cap] w fun e w' => e = .returned (vwV (fstN (X.map bdP)) (allN (X.map bdP)) (lastN (X.map bdP))) ∧ Below w.heap.size w w' := by
  have HX := hr hX
  have HS := hr hS
  have H0 : Hid (Lk w X 0 ((w.alloc (.cells #[.int .u16 0, .int .u16 0, .int .u16 0] 56)).alloc (.cells #[.int .u16 0, .int .u16 0, .int .u16 0] 56))) :=
    ⟨by have := heap_new (w.alloc (.cells #[.int .u16 0, .int .u16 0, .int .u16 0] 56)) (.cells #[.int .u16 0, .int .u16 0, .int .u16 0] 56); rwa [World.size_alloc] at this,
      by have := heap_new w (.cells #[.int .u16 0, .int .u16 0, .int .u16 0] 56); exact (Below.heap_alloc _ _ _ (Array.getElem?_eq_some_iff.1 this).1).trans this, (Ok.start w).alloc.alloc⟩
  have HBd := hr (fun (W : World) (h : Below w.heap.size w W) (r : Int) => bd_any (hB.step h) r)
  clear hB hX hS
  go_enter Try.func20, Try.ntmps20
  go_wp2_with fail
  go_loopg [11] n (fun gg vi wr => ∃ k : Nat, vi = .int .i64 k ∧ k ≤ n ∧ gg = n - k ∧ Hid (Lk w X k wr))
  case atStart => exact ⟨0, rfl, Nat.zero_le _, rfl, H0.out⟩
  case round =>
    obtain ⟨k, rfl, hk, hg, H⟩ := hrel
    have HG := hr hg
    clear hg H0
    by_cases hlt : k < n
    · have hlx : k < X.length := by have := HX.out; omega
      obtain ⟨bb, off, rfl, hb, c1⟩ := HS.out.at_ k hlx
      have d1 := (H.out.ok.1.cell (p := ⟨bb, off + k, none⟩) hb).trans c1
      have HV := hr (HBd.out wr H.out.ok.1 X[k])
      have HD := hr (bd_dir X[k])
      have HT : Hid ((X.take (k + 1)).map bdP = (X.take k).map bdP ++ [bdP X[k]]) := by show _ = _; rw [List.take_succ_eq_append_getElem hlx, List.map_append]; rfl
      have z1 : (k : Int) < (n : Int) := by omega
      clear c1
      generalize X[k] = x at *
      generalize bdP x = d at *
      have HF : Hid (fstN ((X.take (k + 1)).map bdP) = if k = 0 then oneN d else fstN ((X.take k).map bdP)) := by
        show _ = _
        rw [HT.out]
        by_cases e : k = 0
        · subst e; rfl
        · rw [if_neg e, fst_snoc]
          intro h
          rw [List.map_eq_nil_iff, List.take_eq_nil_iff] at h
          rcases h with h | h
          · exact e h
          · rw [h] at hlx; simp at hlx
      have HA : Hid (allN ((X.take (k + 1)).map bdP) = allN ((X.take k).map bdP) ||| oneN d) := by show _ = _; rw [HT.out, all_snoc]
      have HL : Hid (lastN ((X.take (k + 1)).map bdP) = if oneN d = 256 then lastN ((X.take k).map bdP) else oneN d) := by show _ = _; rw [HT.out, last_snoc]
      have hp := pow16 HD.out
      have hor := or16 (allN ((X.take k).map bdP)) (oneN d) (Nat.lt_trans (allN_lt (map_dir _)) (by omega)) (Nat.lt_trans (one_lt HD.out) (by omega))
      have g0 := HD.out.1
      have g1 : d ≤ 16 := Int.le_trans HD.out.2 (by omega)
      go_wp2_with fail
      refine HV.out.mono ?_
      rintro e W1 ⟨rfl, hb1⟩
      have HW : Hid (Vc W1 (w.heap.size + 1) (fstN ((X.take k).map bdP)) (allN ((X.take k).map bdP)) (lastN ((X.take k).map bdP)) ∧ Vc W1 w.heap.size 0 0 0 ∧ Ok w.heap.size w W1) := ⟨H.out.v.step hb1, H.out.r.step hb1, H.out.ok.step hb1⟩
      obtain ⟨q0, q1, q2⟩ := HW.out.1.cells
      have t0 := HW.out.1.frozen 0
      have t1 := HW.out.1.frozen 1
      have t2 := HW.out.1.frozen 2
      have HK : Hid (∀ W, Vc W (w.heap.size + 1) (fstN ((X.take (k + 1)).map bdP)) (allN ((X.take (k + 1)).map bdP)) (lastN ((X.take (k + 1)).map bdP)) → Vc W w.heap.size 0 0 0 → Ok w.heap.size w W → Lk w X (k + 1) W) := fun W h1 h2 h3 => ⟨h1, h2, h3⟩
      rw [HF.out, HA.out, HL.out] at HK
      clear hb1 H HV HD HT HF HA HL HBd
      generalize fstN ((X.take k).map bdP) = f at *
      generalize allN ((X.take k).map bdP) = a at *
      generalize lastN ((X.take k).map bdP) = l at *
      generalize oneN d = o at *
      by_cases hk0 : k = 0
      · subst hk0
        by_cases ho : o = 256
        · have ho' : ((o : Int) == 256) = true := beq_iff_eq.2 (by omega)
          have HE := hr ho
          clear ho
          go_wp2_with fail
          go_roundg (n - (0 + 1))
          case measure => rw [HG.out]; omega
          case rel => exact ⟨0 + 1, by go_num, by omega, rfl, HK.out _ (by rw [if_pos trivial, if_pos HE.out]; exact ((HW.out.1).set0 o).set1 (a ||| o)) (((HW.out.2.1).other 0 _ (by omega)).other 1 _ (by omega)) (ok_set (ok_set (HW.out.2.2) _ 0 (by omega) _) _ 1 (by omega) _)⟩
        · have ho' : ((o : Int) == 256) = false := beq_eq_false_iff_ne.2 (by omega)
          go_wp2_with fail
          go_roundg (n - (0 + 1))
          case measure => rw [HG.out]; omega
          case rel => exact ⟨0 + 1, by go_num, by omega, rfl, HK.out _ (by rw [if_pos trivial, if_neg ho]; exact (((HW.out.1).set0 o).set2 o).set1 (a ||| o)) ((((HW.out.2.1).other 0 _ (by omega)).other 2 _ (by omega)).other 1 _ (by omega)) (ok_set (ok_set (ok_set (HW.out.2.2) _ 0 (by omega) _) _ 2 (by omega) _) _ 1 (by omega) _)⟩
      · have hk1 : ((k : Int) == 0) = false := beq_eq_false_iff_ne.2 (by omega)
        by_cases ho : o = 256
        · have ho' : ((o : Int) == 256) = true := beq_iff_eq.2 (by omega)
          have HE := hr ho
          clear ho
          go_wp2_with fail
          go_roundg (n - (k + 1))
          case measure => rw [HG.out]; omega
          case rel => exact ⟨k + 1, by go_num, by omega, rfl, HK.out _ (by rw [if_neg hk0, if_pos HE.out]; exact (HW.out.1).set1 (a ||| o)) ((HW.out.2.1).other 1 _ (by omega)) (ok_set (HW.out.2.2) _ 1 (by omega) _)⟩
        · have ho' : ((o : Int) == 256) = false := beq_eq_false_iff_ne.2 (by omega)
          go_wp2_with fail
          go_roundg (n - (k + 1))
          case measure => rw [HG.out]; omega
          case rel => exact ⟨k + 1, by go_num, by omega, rfl, HK.out _ (by rw [if_neg hk0, if_neg ho]; exact ((HW.out.1).set2 o).set1 (a ||| o)) (((HW.out.2.1).other 2 _ (by omega)).other 1 _ (by omega)) (ok_set (ok_set (HW.out.2.2) _ 2 (by omega) _) _ 1 (by omega) _)⟩
    · have e : k = X.length := by have := HX.out; omega
      have z1 : ¬ (k : Int) < (n : Int) := by omega
      have h1 := H.out.v
      rw [e, List.take_length] at h1
      obtain ⟨q0, q1, q2⟩ := h1.cells
      have t0 := H.out.r.frozen 0
      have t1 := H.out.r.frozen 1
      have t2 := H.out.r.frozen 2
      obtain ⟨p0, p1, p2⟩ := H.out.r.cells
      have HW := hr H.out
      clear H h1
      go_wp2_with fail
      obtain ⟨x0, x1, x2⟩ := (((HW.out.r.set0 (fstN (X.map bdP))).set1 (allN (X.map bdP))).set2 (lastN (X.map bdP))).cells
      exact bodyPost_ret (v := vwV (fstN (X.map bdP)) (allN (X.map bdP)) (lastN (X.map bdP))) (by simp [results, Try.results20, go_sem, vwV, x0, x1, x2]) rfl ⟨rfl, (ok_set (ok_set (ok_set HW.out.ok _ 0 (Nat.le_refl _) _) _ 1 (Nat.le_refl _) _) _ 2 (Nat.le_refl _) _).1⟩
end Bi
end Go.Proofs.Ytemdmalcoemhnaa

namespace Go.Proofs.Ytemdmalcoemhnaa
namespace Bi
open Go.RowKit Od

theorem fst_lt {ds : List Int} (h : ∀ d ∈ ds, Dir d) : fstN ds < 65536 := by
  match ds, h with
  | [], _ => show 0 < 65536; omega
  | d :: _, h => exact Nat.lt_trans (one_lt (h d List.mem_cons_self)) (by omega)
theorem last_lt {ds : List Int} (h : ∀ d ∈ ds, Dir d) : lastN ds < 65536 := by
  obtain ⟨h1, h2⟩ := last_eq h
  rw [h1]
  unfold lnOf
  by_cases e : lastD ds = -1
  · rw [if_pos e]; omega
  · rw [if_neg e]; exact Nat.lt_trans (one_lt (h2.resolve_left e)) (by omega)
/-- What is told of code points. -/
def brP (X : List Int) : Int := brD (X.map bdP)
def rtP (X : List Int) : Bool := rtD (X.map bdP)
set_option maxRecDepth 100000 in
set_option maxHeartbeats 4000000 in
theorem broken_any {w : World} {b : Nat} (hB : Bk w b) {ao : Option Addr} {n cap : Nat} {X : List Int} (hX : X.length = n) (hS : SlP .i32 w ao cap X) (hn : n ≤ 1000000) :
    Calls Try.prog 8 #[.pointer (some ⟨b, 0, none⟩), .slice ao n cap] w fun e w' => e = .returned (.int .i64 (brP X)) ∧ Below w.heap.size w w' := by
  have HL := hr (look_any hB hX hS hn)
  have HO := hr (Ok.start w)
  have hf := fst_lt (map_dir X)
  have ha : allN (X.map bdP) < 65536 := Nat.lt_trans (allN_lt (map_dir X)) (by omega)
  have hl := last_lt (map_dir X)
  unfold brP
  rw [← br_eq (map_dir X)]
  unfold vwV at HL
  generalize fstN (X.map bdP) = f at *
  generalize allN (X.map bdP) = a at *
  generalize lastN (X.map bdP) = l at *
  have H7 := hr (fun W => some_any f 7 hf (by omega) W)
  have H6 := hr (fun W => some_any f 6 hf (by omega) W)
  have HR := hr (fun W => right_any f a l ha hl W)
  have HF := hr (fun W => left_any f a l ha hl W)
  unfold vwV at HR HF
  unfold brN
  generalize rgN a l = x at *
  generalize lfN a l = y at *
  generalize smN f 7 = q at *
  generalize smN f 6 = q' at *
  clear hB hX hS hn hf ha hl
  go_enter Try.func8, Try.ntmps8
  go_wp2_with fail
  refine HL.out.mono ?_
  rintro e w1 ⟨rfl, hb⟩
  replace HO := hr (HO.out.step hb)
  clear hb HL
  go_wp2_with fail
  refine (H7.out _).mono ?_
  rintro e w2 ⟨rfl, rfl⟩
  cases q
  · go_wp2_with fail
    go_ret
    exact ⟨rfl, HO.out.alloc.1⟩
  go_wp2_with fail
  refine (H6.out _).mono ?_
  rintro e w2 ⟨rfl, rfl⟩
  cases q'
  · go_wp2_with fail
    refine (HF.out _).mono ?_
    rintro e w2 ⟨rfl, hb⟩
    replace HO := hr (HO.out.alloc.step hb)
    clear hb
    go_wp2_with fail
    go_ret
    exact ⟨rfl, HO.out.1⟩
  · go_wp2_with fail
    refine (HR.out _).mono ?_
    rintro e w2 ⟨rfl, hb⟩
    replace HO := hr (HO.out.alloc.step hb)
    clear hb
    go_wp2_with fail
    go_ret
    exact ⟨rfl, HO.out.1⟩
theorem run_fieldV (f a l : Int) (w : World) : (Instr.field 56 (.agg #[.int .u16 f, .int .u16 a, .int .u16 l]) 1).run Try.prog w = .ok (.int .u16 a) w := by
  simp [Instr.field, run_underlying Try.underlying56, asAgg, part, isAgg, run_underlying Try.underlying54]
set_option maxRecDepth 100000 in
set_option maxHeartbeats 4000000 in
theorem rtl_any {w : World} {b : Nat} (hB : Bk w b) {ao : Option Addr} {n cap : Nat} {X : List Int} (hX : X.length = n) (hS : SlP .i32 w ao cap X) (hn : n ≤ 1000000) :
    Calls Try.prog 9 #[.pointer (some ⟨b, 0, none⟩), .slice ao n cap] w fun e w' => e = .returned (.bool (rtP X)) ∧ Below w.heap.size w w' := by
  have HL := hr (look_any hB hX hS hn)
  have HO := hr (Ok.start w)
  have ha : allN (X.map bdP) < 65536 := Nat.lt_trans (allN_lt (map_dir X)) (by omega)
  unfold rtP
  rw [← rt_eq (map_dir X)]
  unfold vwV at HL
  generalize fstN (X.map bdP) = f at *
  generalize allN (X.map bdP) = a at *
  generalize lastN (X.map bdP) = l at *
  have H7 := hr (fun W => some_any a 70 ha (by omega) W)
  have hfd := fun W => run_fieldV f a l W
  generalize smN a 70 = q at *
  clear hB hX hS hn ha
  go_enter Try.func9, Try.ntmps9
  go_wp2_with fail
  refine HL.out.mono ?_
  rintro e w1 ⟨rfl, hb⟩
  replace HO := hr (HO.out.step hb)
  clear hb HL
  go_wp2_with fail
  refine (H7.out _).mono ?_
  rintro e w2 ⟨rfl, rfl⟩
  go_wp2_with fail
  go_ret
  exact ⟨rfl, HO.out.1⟩
theorem sl2 (k : IntKind) (w : World) (t : TypeId) (x y : Int) (N : Nat) (hN : N = w.heap.size) : SlP k (w.alloc (.cells #[.int k x, .int k y] t)) (some ⟨N, 0, none⟩) 2 [x, y] := by
  subst hN
  have h0 : (w.alloc (.cells #[.int k x, .int k y] t)).heap[w.heap.size]? = some (.cells #[.int k x, .int k y] t) := heap_new w _
  refine ⟨Nat.le_refl _, fun e => (by cases e), fun j hj => ⟨w.heap.size, 0, rfl, (Array.getElem?_eq_some_iff.1 h0).1, ?_⟩⟩
  have hj2 : j = 0 ∨ j = 1 := by simp at hj; omega
  unfold World.cell?
  rw [h0]
  rcases hj2 with rfl | rfl <;> rfl
theorem bd_1488 : bdP 1488 = 1 := by kernel_rfl
theorem bd_49 : bdP 49 = 3 := by kernel_rfl
theorem bd_97 : bdP 97 = 0 := by kernel_rfl
theorem bd_769 : bdP 769 = 8 := by kernel_rfl
theorem ex1 : brP [1488, 49] = 0 := by
  show brD [bdP 1488, bdP 49] = 0
  rw [bd_1488, bd_49]; decide
theorem ex2 : brP [49, 1488] = 1 := by
  show brD [bdP 49, bdP 1488] = 1
  rw [bd_1488, bd_49]; decide
theorem ex3 : brP [97, 1488] = 5 := by
  show brD [bdP 97, bdP 1488] = 5
  rw [bd_1488, bd_97]; decide
set_option maxRecDepth 100000 in
set_option maxHeartbeats 4000000 in
theorem awake_any {w : World} {b : Nat} (hB : Bk w b) : Calls Try.prog 7 #[.pointer (some ⟨b, 0, none⟩)] w fun e w' => e = .returned (.bool true) ∧ Below w.heap.size w w' := by
  have HO := hr (Ok.start w)
  have HB := hr (fun (W : World) (h : Below w.heap.size w W) => hB.step h)
  clear hB
  go_enter Try.func7, Try.ntmps7
  go_wp2_with fail
  refine (broken_any (HB.out _ HO.out.alloc.1) (X := [1488, 49]) rfl (sl2 _ _ _ _ _ _ rfl) (by decide)).mono ?_
  rintro e w1 ⟨rfl, hb⟩
  rw [ex1]
  replace HO := hr (HO.out.alloc.step hb)
  clear hb
  go_wp2_with fail
  refine (broken_any (HB.out _ HO.out.alloc.1) (X := [49, 1488]) rfl (sl2 _ _ _ _ _ _ rfl) (by decide)).mono ?_
  rintro e w2 ⟨rfl, hb⟩
  rw [ex2]
  replace HO := hr (HO.out.alloc.step hb)
  clear hb
  go_wp2_with fail
  refine (broken_any (HB.out _ HO.out.alloc.1) (X := [97, 1488]) rfl (sl2 _ _ _ _ _ _ rfl) (by decide)).mono ?_
  rintro e w3 ⟨rfl, hb⟩
  rw [ex3]
  replace HO := hr (HO.out.alloc.step hb)
  clear hb
  go_wp2_with fail
  go_ret
  exact ⟨rfl, HO.out.1⟩
end Bi
end Go.Proofs.Ytemdmalcoemhnaa

namespace Go.Proofs.Ytemdmalcoemhnaa
namespace Bi
open Go.RowKit Od

theorem bd_row (r : Int) : bdP r = (Uc.rrowP r).2.2.2.1 := by
  unfold bdP
  rw [Uc.book_tells r]
  rfl
theorem row_any (r : Int) (w : World) : Calls Try.prog 47 #[.int .i64 r] w fun e w' => ∃ x1 x2 x3 x5 x6 x7 : Int, e = .returned (.agg #[.int .i64 x1, .int .i64 x2, .int .i64 x3, .int .i64 (bdP r), .int .i64 x5, .int .i64 x6, .int .i64 x7]) ∧ Below w.heap.size w w' := by
  refine (Uc.rrow_any r w).mono ?_
  rintro e w' ⟨rfl, hb⟩
  rw [bd_row]
  exact ⟨_, _, _, _, _, _, rfl, hb⟩
theorem idx7 (x1 x2 x3 x4 x5 x6 x7 : Int) (w : World) : (Instr.index 82 (.agg #[.int .i64 x1, .int .i64 x2, .int .i64 x3, .int .i64 x4, .int .i64 x5, .int .i64 x6, .int .i64 x7]) (.int .i64 3)).run Try.prog w = .ok (.int .i64 x4) w := by
  obtain ⟨i0, hi, hz0, hz1, hz2⟩ := info_parts Try.info_i64
  have h := fun (i : Nat) (hl : i < 7) => run_index_agg (P := Try.prog) w 82 3 7 i0 #[.int .i64 x1, .int .i64 x2, .int .i64 x3, .int .i64 x4, .int .i64 x5, .int .i64 x6, .int .i64 x7] .i64 i Try.underlying82 hi hl
  refine (h 3 (by omega)).trans ?_
  rw [hz1]
  simp [part, isAgg, run_underlying Try.underlying3]
theorem dir_any (r : Int) (w : World) : Calls Try.prog 26 #[.int .i64 r] w fun e w' => e = .returned (.int .i64 (bdP r)) ∧ Below w.heap.size w w' := by
  have HO := hr (Ok.start w)
  have HR := hr (row_any r w)
  generalize bdP r = d at *
  go_enter Try.func26, Try.ntmps26
  go_wp2_with fail
  refine HR.out.mono ?_
  rintro e w1 ⟨x1, x2, x3, x5, x6, x7, rfl, hb⟩
  have hi := fun W => idx7 x1 x2 x3 d x5 x6 x7 W
  replace HO := hr (HO.out.step hb)
  clear hb HR
  go_wp2_with fail
  go_ret
  exact ⟨rfl, HO.out.1⟩
set_option maxRecDepth 100000 in
set_option maxHeartbeats 2000000 in
theorem among_any {w : World} {v : Value} {zs : List Int} (h : Sl .i64 w v zs) (hn : zs.length ≤ 1000000) (x : Int) :
    Calls Try.prog 25 #[v, .int .i64 x] w fun e w' => e = .returned (.bool (decide (x ∈ zs))) ∧ w' = w := by
  obtain ⟨ao, cap, rfl, h⟩ := h
  have HS := hr h
  clear h
  generalize hlen : zs.length = len at *
  have HLn := hr hlen
  clear hlen
  go_enter Try.func25, Try.ntmps25
  go_wp2_with fail
  go_loop [5] (fun vi => ∃ k : Nat, k ≤ len ∧ vi = .int .i64 k ∧ Hid (∀ j (hj : j < zs.length), j < k → zs[j] ≠ x)) (fun vi => len - (intOf vi).toNat)
  case atStart => exact ⟨0, Nat.zero_le _, rfl, fun j _ h => by omega⟩
  case round =>
    obtain ⟨k, hk, rfl, H⟩ := hrel
    by_cases hlt : k < len
    · have hlx : k < zs.length := by rw [HLn.out]; exact hlt
      obtain ⟨b, off, rfl, hb, c1⟩ := HS.out.at_ k hlx
      have z1 : (k : Int) < (len : Int) := by omega
      by_cases he : zs[k] = x
      · have HE : Hid (decide (x ∈ zs) = true) := decide_eq_true (by rw [← he]; exact List.getElem_mem hlx)
        rw [he] at c1
        go_wp2_with fail
        try rw [Exit.noGoto_ret]
        go_ret
        exact ⟨ret_bool HE.out.symm, rfl⟩
      · have HN : Hid (∀ j (hj : j < zs.length), j < k + 1 → zs[j] ≠ x) := fun j hj h => by
          by_cases e : j = k
          · subst e; exact he
          · exact H.out j hj (by omega)
        generalize zs[k] = y at *
        have q : (y == x) = false := beq_eq_false_iff_ne.2 he
        go_wp2_with fail
        go_round
        case rel => exact ⟨k + 1, hlt, by go_num, HN⟩
        case measure => (simp [intOf]) <;> omega
    · have z1 : ¬ (k : Int) < (len : Int) := by omega
      have HE : Hid (decide (x ∈ zs) = false) := decide_eq_false (fun hm => by
        obtain ⟨j, hj, e⟩ := List.mem_iff_getElem.1 hm
        exact absurd e (H.out j hj (by have := HLn.out; omega)))
      go_wp2_with fail
      go_ret
      exact ⟨ret_bool HE.out.symm, rfl⟩
set_option maxRecDepth 100000 in
set_option maxHeartbeats 2000000 in
theorem all_any {w : World} {v m : Value} {X M : List Int} (h : Sl .i64 w v X) (hn : X.length ≤ 1000000) (hm : Sl .i64 w m M) (hM : M.length ≤ 1000) :
    Calls Try.prog 27 #[v, m] w fun e w' => e = .returned (.bool (allB (X.map bdP) M)) ∧ Below w.heap.size w w' := by
  obtain ⟨ao, cap, rfl, h⟩ := h
  have HS := hr h
  have HM := hr (fun (W : World) (d : Int) (hb : Below w.heap.size w W) => among_any (hm.step hb) (by omega) d)
  have HO := hr (Ok.start w)
  clear h hm
  generalize hlen : X.length = len at *
  have HLn := hr hlen
  clear hlen
  go_enter Try.func27, Try.ntmps27
  go_wp2_with fail
  go_loopg [5] len (fun gg vi wr => ∃ k : Nat, vi = .int .i64 k ∧ k ≤ len ∧ gg = len - k ∧ Hid ((∀ j (hj : j < X.length), j < k → bdP X[j] ∈ M) ∧ Ok w.heap.size w wr))
  case atStart => exact ⟨0, rfl, Nat.zero_le _, rfl, fun j _ h => by omega, HO.out⟩
  case round =>
    obtain ⟨k, rfl, hk, hg, H⟩ := hrel
    have HG := hr hg
    clear hg HO
    by_cases hlt : k < len
    · have hlx : k < X.length := by rw [HLn.out]; exact hlt
      obtain ⟨b, off, rfl, hb, c1⟩ := HS.out.at_ k hlx
      have d1 := (H.out.2.1.cell (p := ⟨b, off + k, none⟩) hb).trans c1
      have z1 : (k : Int) < (len : Int) := by omega
      have HN : Hid (bdP X[k] ∈ M → ∀ j (hj : j < X.length), j < k + 1 → bdP X[j] ∈ M) := fun he j hj h => by
        by_cases e : j = k
        · subst e; exact he
        · exact H.out.1 j hj (by omega)
      have HE : Hid (¬ bdP X[k] ∈ M → allB (X.map bdP) M = false) := fun he => by
        unfold allB
        rw [List.all_eq_false]
        exact ⟨bdP X[k], List.mem_map.2 ⟨X[k], List.getElem_mem hlx, rfl⟩, by rw [decide_eq_true_eq]; exact he⟩
      have HDr := hr (fun W => dir_any X[k] W)
      clear c1
      generalize X[k] = x at *
      generalize bdP x = d at *
      go_wp2_with fail
      refine (HDr.out _).mono ?_
      rintro e W1 ⟨rfl, hb1⟩
      have HO := hr (H.out.2.step hb1)
      clear hb1
      go_wp2_with fail
      refine (HM.out _ d HO.out.1).mono ?_
      rintro e W2 ⟨rfl, rfl⟩
      by_cases he : d ∈ M
      · rw [decide_eq_true he]
        go_wp2_with fail
        go_roundg (len - (k + 1))
        case measure => rw [HG.out]; omega
        case rel => exact ⟨k + 1, by go_num, by omega, rfl, HN.out he, HO.out⟩
      · rw [decide_eq_false he]
        go_wp2_with fail
        try rw [Exit.noGoto_ret]
        go_ret
        exact ⟨ret_bool (HE.out he).symm, HO.out.1⟩
    · have z1 : ¬ (k : Int) < (len : Int) := by omega
      have HE : Hid (allB (X.map bdP) M = true) := by
        show _ = _
        unfold allB
        rw [List.all_eq_true]
        intro d hd
        obtain ⟨x, hx, rfl⟩ := List.mem_map.1 hd
        obtain ⟨j, hj, rfl⟩ := List.mem_iff_getElem.1 hx
        rw [decide_eq_true_eq]
        exact H.out.1 j hj (by have := HLn.out; omega)
      go_wp2_with fail
      go_ret
      exact ⟨ret_bool HE.out.symm, H.out.2.1⟩
/-- Has one of these this direction? -/
def smP (X : List Int) (t : Int) : Bool := decide (t ∈ X.map bdP)
set_option maxRecDepth 100000 in
set_option maxHeartbeats 2000000 in
theorem rsome_any {w : World} {v : Value} {X : List Int} (h : Sl .i64 w v X) (hn : X.length ≤ 1000000) (t : Int) :
    Calls Try.prog 29 #[v, .int .i64 t] w fun e w' => e = .returned (.bool (smP X t)) ∧ Below w.heap.size w w' := by
  obtain ⟨ao, cap, rfl, h⟩ := h
  have HS := hr h
  have HO := hr (Ok.start w)
  clear h
  generalize hlen : X.length = len at *
  have HLn := hr hlen
  clear hlen
  go_enter Try.func29, Try.ntmps29
  go_wp2_with fail
  go_loopg [5] len (fun gg vi wr => ∃ k : Nat, vi = .int .i64 k ∧ k ≤ len ∧ gg = len - k ∧ Hid ((∀ j (hj : j < X.length), j < k → bdP X[j] ≠ t) ∧ Ok w.heap.size w wr))
  case atStart => exact ⟨0, rfl, Nat.zero_le _, rfl, fun j _ h => by omega, HO.out⟩
  case round =>
    obtain ⟨k, rfl, hk, hg, H⟩ := hrel
    have HG := hr hg
    clear hg HO
    by_cases hlt : k < len
    · have hlx : k < X.length := by rw [HLn.out]; exact hlt
      obtain ⟨b, off, rfl, hb, c1⟩ := HS.out.at_ k hlx
      have d1 := (H.out.2.1.cell (p := ⟨b, off + k, none⟩) hb).trans c1
      have z1 : (k : Int) < (len : Int) := by omega
      have HN : Hid (bdP X[k] ≠ t → ∀ j (hj : j < X.length), j < k + 1 → bdP X[j] ≠ t) := fun he j hj h => by
        by_cases e : j = k
        · subst e; exact he
        · exact H.out.1 j hj (by omega)
      have HE : Hid (bdP X[k] = t → smP X t = true) := fun he => decide_eq_true (List.mem_map.2 ⟨X[k], List.getElem_mem hlx, he⟩)
      have HDr := hr (fun W => dir_any X[k] W)
      clear c1
      generalize X[k] = x at *
      generalize bdP x = d at *
      go_wp2_with fail
      refine (HDr.out _).mono ?_
      rintro e W1 ⟨rfl, hb1⟩
      have HO := hr (H.out.2.step hb1)
      clear hb1
      by_cases he : d = t
      · have q : (d == t) = true := beq_iff_eq.2 he
        have HEE := hr (HE.out he)
        clear he HE
        go_wp2_with fail
        try rw [Exit.noGoto_ret]
        go_ret
        exact ⟨ret_bool HEE.out.symm, HO.out.1⟩
      · have q : (d == t) = false := beq_eq_false_iff_ne.2 he
        go_wp2_with fail
        go_roundg (len - (k + 1))
        case measure => rw [HG.out]; omega
        case rel => exact ⟨k + 1, by go_num, by omega, rfl, HN.out he, HO.out⟩
    · have z1 : ¬ (k : Int) < (len : Int) := by omega
      have HE : Hid (smP X t = false) := decide_eq_false (fun hd => by
        obtain ⟨x, hx, e⟩ := List.mem_map.1 hd
        obtain ⟨j, hj, rfl⟩ := List.mem_iff_getElem.1 hx
        exact H.out.1 j hj (by have := HLn.out; omega) e)
      go_wp2_with fail
      go_ret
      exact ⟨ret_bool HE.out.symm, H.out.2.1⟩
theorem lastD_snoc (ds : List Int) (d : Int) : lastD (ds ++ [d]) = if d = 8 then lastD ds else d := by unfold lastD; rw [List.foldl_append]; rfl
set_option maxRecDepth 100000 in
set_option maxHeartbeats 2000000 in
theorem end_any {w : World} {v : Value} {X : List Int} (h : Sl .i64 w v X) (hn : X.length ≤ 1000000) :
    Calls Try.prog 28 #[v] w fun e w' => e = .returned (.int .i64 (lastD (X.map bdP))) ∧ Below w.heap.size w w' := by
  obtain ⟨ao, cap, rfl, h⟩ := h
  have HS := hr h
  have HO := hr (Ok.start w)
  clear h
  generalize hlen : X.length = len at *
  have HLn := hr hlen
  clear hlen
  go_enter Try.func28, Try.ntmps28
  go_wp2_with fail
  go_loopg [3, 4] len (fun gg vo vi wr => ∃ k : Nat, vi = .int .i64 k ∧ k ≤ len ∧ gg = len - k ∧ ∃ z : Int, vo = .int .i64 z ∧ Hid (z = lastD ((X.take k).map bdP) ∧ Ok w.heap.size w wr))
  case atStart => exact ⟨0, rfl, Nat.zero_le _, rfl, -1, rfl, rfl, HO.out⟩
  case round =>
    obtain ⟨k, rfl, hk, hg, z, rfl, H⟩ := hrel
    have HG := hr hg
    clear hg HO
    by_cases hlt : k < len
    · have hlx : k < X.length := by rw [HLn.out]; exact hlt
      obtain ⟨b, off, rfl, hb, c1⟩ := HS.out.at_ k hlx
      have d1 := (H.out.2.1.cell (p := ⟨b, off + k, none⟩) hb).trans c1
      have z1 : (k : Int) < (len : Int) := by omega
      have HT : Hid (lastD ((X.take (k + 1)).map bdP) = if bdP X[k] = 8 then z else bdP X[k]) := by
        show _ = _
        rw [List.take_succ_eq_append_getElem hlx, List.map_append, H.out.1]
        exact lastD_snoc _ _
      have HDr := hr (fun W => dir_any X[k] W)
      clear c1
      generalize X[k] = x at *
      generalize bdP x = d at *
      go_wp2_with fail
      refine (HDr.out _).mono ?_
      rintro e W1 ⟨rfl, hb1⟩
      have HO := hr (H.out.2.step hb1)
      have d2 := (hb1.cell (p := ⟨b, off + k, none⟩) (Nat.lt_of_lt_of_le hb H.out.2.2)).trans d1
      clear hb1
      by_cases he : d = 8
      · have q : (d == 8) = true := beq_iff_eq.2 he
        have HEE : Hid (z = lastD ((X.take (k + 1)).map bdP)) := by show _ = _; rw [HT.out, if_pos he]
        clear he
        go_wp2_with fail
        go_roundg (len - (k + 1))
        case measure => rw [HG.out]; omega
        case rel => exact ⟨k + 1, by go_num, by omega, rfl, z, rfl, HEE.out, HO.out⟩
      · have q : (d == 8) = false := beq_eq_false_iff_ne.2 he
        go_wp2_with fail
        refine (HDr.out _).mono ?_
        rintro e W2 ⟨rfl, hb1⟩
        replace HO := hr (HO.out.step hb1)
        clear hb1
        go_wp2_with fail
        go_roundg (len - (k + 1))
        case measure => rw [HG.out]; omega
        case rel => exact ⟨k + 1, by go_num, by omega, rfl, d, rfl, by rw [HT.out, if_neg he], HO.out⟩
    · have z1 : ¬ (k : Int) < (len : Int) := by omega
      have HE : Hid (z = lastD (X.map bdP)) := by
        show _ = _
        have e : k = X.length := by have := HLn.out; omega
        have := H.out.1
        rwa [e, List.take_length] at this
      go_wp2_with fail
      go_ret
      exact ⟨ret_int HE.out, H.out.2.1⟩
end Bi
end Go.Proofs.Ytemdmalcoemhnaa

namespace Go.Proofs.Ytemdmalcoemhnaa
namespace Bi
open Go.RowKit Od

theorem lit_sl (w : World) (t : TypeId) (l : List Int) (cs : Array Value) (hc : cs = (ivs .i64 l).toArray) (N n : Nat) (hN : N = w.heap.size) (hn : n = l.length) : Sl .i64 (w.alloc (.cells cs t)) (.slice (some ⟨N, 0, none⟩) n n) l := by
  subst hN hc hn
  have h : (w.alloc (.cells (ivs .i64 l).toArray t)).heap[w.heap.size]? = some (.cells (ivs .i64 l).toArray t) := heap_new w _
  refine ⟨some ⟨w.heap.size, 0, none⟩, l.length, rfl, Nat.le_refl _, fun e => (by cases e), fun j hj => ⟨w.heap.size, 0, rfl, (Array.getElem?_eq_some_iff.1 h).1, ?_⟩⟩
  unfold World.cell?
  rw [h]
  simp [ivs, hj]
theorem right14_any {w : World} {v : Value} {X : List Int} (h : Sl .i64 w v X) (hn : X.length ≤ 1000000) :
    Calls Try.prog 13 #[v] w fun e w' => e = .returned (.bool (rtP X)) ∧ Below w.heap.size w w' := by
  have HO := hr (Ok.start w)
  have HS := hr (fun (W : World) (hb : Below w.heap.size w W) (t : Int) => rsome_any (h.step hb) hn t)
  have HE : Hid (rtP X = (smP X 1 || smP X 2 || smP X 6)) := rfl
  clear h hn
  go_enter Try.func13, Try.ntmps13
  go_wp2_with fail
  refine (HS.out _ HO.out.1 1).mono ?_
  rintro e w1 ⟨rfl, hb⟩
  replace HO := hr (HO.out.step hb)
  clear hb
  generalize smP X 1 = q1 at *
  cases q1
  · go_wp2_with fail
    refine (HS.out _ HO.out.1 2).mono ?_
    rintro e w1 ⟨rfl, hb⟩
    replace HO := hr (HO.out.step hb)
    clear hb
    generalize smP X 2 = q2 at *
    cases q2
    · go_wp2_with fail
      refine (HS.out _ HO.out.1 6).mono ?_
      rintro e w1 ⟨rfl, hb⟩
      replace HO := hr (HO.out.step hb)
      clear hb
      generalize smP X 6 = q3 at *
      go_wp2_with fail
      go_ret
      exact ⟨ret_bool HE.out.symm, HO.out.1⟩
    · go_wp2_with fail
      go_ret
      exact ⟨ret_bool HE.out.symm, HO.out.1⟩
  · go_wp2_with fail
    go_ret
    exact ⟨ret_bool HE.out.symm, HO.out.1⟩
set_option maxRecDepth 100000 in
set_option maxHeartbeats 4000000 in
theorem rbroken_any {w : World} {v : Value} {X : List Int} (h : Sl .i64 w v X) (hn : X.length ≤ 1000000) :
    Calls Try.prog 11 #[v] w fun e w' => e = .returned (.int .i64 (brP X)) ∧ Below w.heap.size w w' := by
  have HO := hr (Ok.start w)
  obtain ⟨ao, cap, rfl, h'⟩ := h
  have HSl : Hid (Sl .i64 w (.slice ao X.length cap) X) := ⟨ao, cap, rfl, h'⟩
  have HP := hr h'
  clear h'
  by_cases h0 : X.length = 0
  · have e : X = [] := List.length_eq_zero_iff.1 h0
    subst e
    go_enter Try.func11, Try.ntmps11
    go_wp2_with fail
    go_ret
    exact ⟨rfl, HO.out.1⟩
  · obtain ⟨x, xs, rfl⟩ : ∃ x xs, X = x :: xs := by
      match X, h0 with
      | x :: xs, _ => exact ⟨x, xs, rfl⟩
      | [], h0 => exact absurd rfl h0
    obtain ⟨b, off, rfl, hb, c1⟩ := HP.out.at_ 0 (by simp)
    have c0 : w.cell? ⟨b, off, none⟩ = some (.int .i64 x) := c1
    have hlz : (((x :: xs).length : Int) == 0) = false := beq_eq_false_iff_ne.2 (by omega)
    have z0 : (0 : Int) < ((x :: xs).length : Int) := by omega
    have HD := hr (fun W => dir_any x W)
    have HDir := hr (bd_dir x)
    have HEq : Hid (brP (x :: xs) = if bdP x = 0 then (if allB ((x :: xs).map bdP) inL = false then 5 else if lastD ((x :: xs).map bdP) ∈ [0, 3] then 0 else 6)
      else if bdP x = 1 ∨ bdP x = 2 then (if allB ((x :: xs).map bdP) inR = false then 2 else if ¬ lastD ((x :: xs).map bdP) ∈ [1, 2, 3, 6] then 3 else if smP (x :: xs) 3 = true ∧ smP (x :: xs) 6 = true then 4 else 0) else 1) := by
      show _ = _
      unfold smP
      simp only [decide_eq_true_eq]
      rfl
    clear c1 h0
    generalize hX : x :: xs = X at *
    clear hX
    generalize bdP x = d at *
    have HAm := hr (fun (W : World) (V : Value) (l : List Int) (y : Int) (hV : Sl .i64 W V l) (hl : l.length ≤ 1000000) => among_any hV hl y)
    have HAll := hr (fun (W : World) (V : Value) (l : List Int) (hb : Below w.heap.size w W) (hV : Sl .i64 W V l) (hl : l.length ≤ 1000) => all_any (HSl.out.step hb) hn hV hl)
    have HEnd := hr (fun (W : World) (hb : Below w.heap.size w W) => end_any (HSl.out.step hb) hn)
    have HSo := hr (fun (W : World) (hb : Below w.heap.size w W) (t : Int) => rsome_any (HSl.out.step hb) hn t)
    generalize brP X = res at *
    go_enter Try.func11, Try.ntmps11
    go_wp2_with fail
    refine (HD.out _).mono ?_
    rintro e w1 ⟨rfl, hb1⟩
    have S1 := hr ((lit_sl w 3 [0, 1, 2] _ rfl _ 3 rfl rfl).step hb1)
    replace HO := hr (HO.out.alloc.step hb1)
    clear hb1
    go_wp2_with fail
    refine (HAm.out _ _ _ d S1.out (by decide)).mono ?_
    rintro e w2 ⟨rfl, rfl⟩
    clear S1
    by_cases h0 : d = 0
    · have q0 : decide (d ∈ [(0 : Int), 1, 2]) = true := by rw [h0]; decide
      have q1 : (d == 0) = true := beq_iff_eq.2 h0
      rw [if_pos h0] at HEq
      rw [q0]
      clear q0 h0 HDir HSo
      have c2 := (HO.out.1.cell (p := ⟨b, off, none⟩) hb).trans c0
      go_wp2_with fail
      refine (HD.out _).mono ?_
      rintro e w3 ⟨rfl, hb1⟩
      replace HO := hr (HO.out.step hb1)
      clear hb1 c2
      go_wp2_with fail
      refine (HAll.out _ _ inL HO.out.alloc.1 (lit_sl _ 3 inL _ rfl _ 8 rfl rfl) (by decide)).mono ?_
      rintro e w4 ⟨rfl, hb1⟩
      replace HO := hr (HO.out.alloc.step hb1)
      clear hb1
      generalize allB (X.map bdP) inL = aL at *
      cases aL
      · rw [if_pos rfl] at HEq
        go_wp2_with fail
        go_ret
        exact ⟨ret_int HEq.out.symm, HO.out.1⟩
      · rw [if_neg (by decide)] at HEq
        go_wp2_with fail
        refine (HEnd.out _ HO.out.alloc.1).mono ?_
        rintro e w5 ⟨rfl, hb1⟩
        have S1 := hr ((lit_sl w4 3 [0, 3] _ rfl _ 2 rfl rfl).step hb1)
        replace HO := hr (HO.out.alloc.step hb1)
        clear hb1
        generalize lastD (X.map bdP) = la at *
        go_wp2_with fail
        refine (HAm.out _ _ _ la S1.out (by decide)).mono ?_
        rintro e w6 ⟨rfl, rfl⟩
        by_cases hq : la ∈ [(0 : Int), 3]
        · rw [if_pos hq] at HEq
          rw [decide_eq_true hq]
          clear hq S1
          go_wp2_with fail
          go_ret
          exact ⟨ret_int HEq.out.symm, HO.out.1⟩
        · rw [if_neg hq] at HEq
          rw [decide_eq_false hq]
          clear hq S1
          go_wp2_with fail
          go_ret
          exact ⟨ret_int HEq.out.symm, HO.out.1⟩
    by_cases h12 : d = 1 ∨ d = 2
    · have q0 : decide (d ∈ [(0 : Int), 1, 2]) = true := by rcases h12 with e | e <;> (rw [e]; decide)
      have q1 : (d == 0) = false := beq_eq_false_iff_ne.2 h0
      rw [if_neg h0, if_pos h12] at HEq
      rw [q0]
      clear q0 h0 h12 HDir
      have c2 := (HO.out.1.cell (p := ⟨b, off, none⟩) hb).trans c0
      go_wp2_with fail
      refine (HD.out _).mono ?_
      rintro e w3 ⟨rfl, hb1⟩
      replace HO := hr (HO.out.step hb1)
      clear hb1 c2
      go_wp2_with fail
      refine (HAll.out _ _ inR HO.out.alloc.1 (lit_sl _ 3 inR _ rfl _ 10 rfl rfl) (by decide)).mono ?_
      rintro e w4 ⟨rfl, hb1⟩
      replace HO := hr (HO.out.alloc.step hb1)
      clear hb1
      generalize allB (X.map bdP) inR = aL at *
      cases aL
      · rw [if_pos rfl] at HEq
        go_wp2_with fail
        go_ret
        exact ⟨ret_int HEq.out.symm, HO.out.1⟩
      · rw [if_neg (by decide)] at HEq
        go_wp2_with fail
        refine (HEnd.out _ HO.out.alloc.1).mono ?_
        rintro e w5 ⟨rfl, hb1⟩
        have S1 := hr ((lit_sl w4 3 [1, 2, 3, 6] _ rfl _ 4 rfl rfl).step hb1)
        replace HO := hr (HO.out.alloc.step hb1)
        clear hb1
        generalize lastD (X.map bdP) = la at *
        go_wp2_with fail
        refine (HAm.out _ _ _ la S1.out (by decide)).mono ?_
        rintro e w6 ⟨rfl, rfl⟩
        by_cases hq : la ∈ [(1 : Int), 2, 3, 6]
        · rw [if_neg (fun n => n hq)] at HEq
          rw [decide_eq_true hq]
          clear hq S1
          go_wp2_with fail
          refine (HSo.out _ HO.out.1 3).mono ?_
          rintro e w7 ⟨rfl, hb1⟩
          replace HO := hr (HO.out.step hb1)
          clear hb1
          generalize smP X 3 = s3 at *
          cases s3
          · rw [if_neg (fun n => by cases n.1)] at HEq
            go_wp2_with fail
            go_ret
            exact ⟨ret_int HEq.out.symm, HO.out.1⟩
          · go_wp2_with fail
            refine (HSo.out _ HO.out.1 6).mono ?_
            rintro e w8 ⟨rfl, hb1⟩
            replace HO := hr (HO.out.step hb1)
            clear hb1
            generalize smP X 6 = s6 at *
            cases s6
            · rw [if_neg (by decide)] at HEq
              go_wp2_with fail
              go_ret
              exact ⟨ret_int HEq.out.symm, HO.out.1⟩
            · rw [if_pos (by simp)] at HEq
              go_wp2_with fail
              go_ret
              exact ⟨ret_int HEq.out.symm, HO.out.1⟩
        · rw [if_pos hq] at HEq
          rw [decide_eq_false hq]
          clear hq S1
          go_wp2_with fail
          go_ret
          exact ⟨ret_int HEq.out.symm, HO.out.1⟩
    · have q0 : decide (d ∈ [(0 : Int), 1, 2]) = false := decide_eq_false (fun hm => by
        simp only [List.mem_cons, List.not_mem_nil, or_false] at hm
        rcases hm with e | e
        · exact h0 e
        · exact h12 e)
      rw [if_neg h0, if_neg h12] at HEq
      rw [q0]
      clear q0
      go_wp2_with fail
      go_ret
      exact ⟨ret_int HEq.out.symm, HO.out.1⟩
end Bi
end Go.Proofs.Ytemdmalcoemhnaa

namespace Go.Proofs.Ytemdmalcoemhnaa
namespace Bi
open Go.RowKit Od

set_option maxHeartbeats 2000000 in
theorem ints14_any (v : Value) (zs : List Int) (w : World) (h : Sl .i32 w v zs) (hn : zs.length ≤ 1000000) (hz : ∀ z ∈ zs, -2147483648 ≤ z ∧ z ≤ 2147483647) :
    Calls Try.prog 12 #[v] w fun e w' => ∃ v', e = .returned v' ∧ Sn .i64 w' v' zs ∧ Below w.heap.size w w' := by
  obtain ⟨ao, cap, rfl, h⟩ := h
  have HS := hr h
  have HZ := hr hz
  clear h hz
  have HO : Hid ((w.alloc (.cells #[] 3)).ownsRow w.heap.size 3 1 (.slice (some ⟨w.heap.size, 0, none⟩) 0 0) 0 []) := World.ownsRow_made w #[] 0 (Nat.le_refl _) (by unfold maxLen; omega) rfl
  have hok := hr ((Ok.start w).alloc (o := .cells #[] 3))
  go_enter Try.func12, Try.ntmps12
  go_wp2_with fail
  go_loopg [3, 5, 9] zs.length (fun g vo _ vi wr => ∃ k : Nat, vi = .int .i64 k ∧ k ≤ zs.length ∧ g = zs.length - k ∧ Hid (wr.ownsRow w.heap.size 3 1 vo k (ivs .i64 (zs.take k)) ∧ Ok w.heap.size w wr ∧ isSome vo))
  case atStart => exact ⟨0, rfl, Nat.zero_le _, rfl, HO.out, hok.out, trivial⟩
  case round =>
    obtain ⟨k, rfl, hk, hg, H⟩ := hrel
    have HG := hr hg
    clear hg HO hok
    by_cases hlt : k < zs.length
    · obtain ⟨b, off, rfl, hb, hc⟩ := HS.out.at_ k hlt
      have hc' := (H.out.2.1.1.cell (p := ⟨b, off + k, none⟩) hb).trans hc
      have hzk := HZ.out zs[k] (List.getElem_mem hlt)
      have HT : Hid (ivs .i64 (zs.take (k + 1)) = ivs .i64 (zs.take k) ++ [.int .i64 zs[k]]) := by show _ = _; rw [List.take_succ_eq_append_getElem hlt, ivs_snoc]
      clear hc
      generalize zs[k] = z at *
      have hwz : IntKind.i64.wrap z = z := by rw [IntKind.wrap_i64]; omega
      go_wp2_with (at_builtin; refine app_i64 rfl (.tmp 13) (.tmp 16) rfl wr w.heap.size k _ _ z rfl wr.heap.size rfl rfl H.out.1 (by omega) H.out.2.1.2 (fun v' w' h1 h2 => ?_))
      have H2 : Hid (w'.ownsRow w.heap.size 3 1 v' (k + 1) (ivs .i64 (zs.take (k + 1))) ∧ Ok w.heap.size w w' ∧ isSome v') := by
        refine ⟨by rw [HT.out]; exact h1, ok_below h2 H.out.2.1, own_some h1 (Nat.succ_pos k)⟩
      clear h1 h2
      go_roundg (zs.length - (k + 1))
      case measure => rw [HG.out]; omega
      case rel => exact ⟨k + 1, by go_num, by omega, rfl, H2.out⟩
    · have e : k = zs.length := by omega
      subst e
      go_wp2_with fail
      go_ret
      refine ⟨_, rfl, (own_sl (B := w.heap.size) (e := 3) ?_).sn H.out.2.2, H.out.2.1.1⟩
      have := H.out.1
      rwa [List.take_length] at this

/-- What breaks nothing has code points. -/
theorem br_ne {X : List Int} (h : brP X = 0) : ∃ x xs, X = x :: xs := by
  match X, h with
  | x :: xs, _ => exact ⟨x, xs, rfl⟩
  | [], h => exact absurd h (by decide)
theorem br_rt' {x : Int} {xs : List Int} (h : brP (x :: xs) = 0) (hr : rtP (x :: xs) = true) : bdP x = 1 ∨ bdP x = 2 := br_rt (map_dir (x :: xs)) h hr
theorem marks_P (X : List Int) (n : Nat) (h : X ≠ []) : brP (X ++ List.replicate n 769) = brP X ∧ rtP (X ++ List.replicate n 769) = rtP X := by
  have e : (X ++ List.replicate n 769).map bdP = X.map bdP ++ List.replicate n 8 := by rw [List.map_append, List.map_replicate, bd_769]
  unfold brP rtP
  rw [e]
  exact ⟨marks_br _ _ (fun h' => h (List.map_eq_nil_iff.1 h')), marks_rt _ _⟩
end Bi
end Go.Proofs.Ytemdmalcoemhnaa

namespace Go.Proofs.Ytemdmalcoemhnaa
namespace Bi
open Go.RowKit Go.ChangeShapes Go.WideShapes Od

theorem cell_none {w : World} {x : Addr} {v : Value} (h : w.cell? x = some v) : ∃ b off, x = ⟨b, off, none⟩ ∧ b < w.heap.size := by
  obtain ⟨b, off, spot⟩ := x
  have hs : spot = none := World.cell?_spot h
  subst hs
  exact ⟨b, off, rfl, World.block_lt_of_cell? w _ h⟩
theorem add_none (b off j : Nat) : (⟨b, off, none⟩ : Addr).add j = ⟨b, off + j, none⟩ := by
  unfold Addr.add
  by_cases h : j = 0
  · subst h; rfl
  · rw [if_neg h]
theorem cellsR : Try.prog.cellsOf 21 = 1 := by kernel_rfl
theorem cellsRs : Try.prog.cellsOf 22 = 1 := by kernel_rfl
def Rn (X : List Int) : Prop := ∀ y ∈ X, -2147483648 ≤ y ∧ y ≤ 2147483647
theorem rune_wf {a : Int} (h : (Lit.int .i32 a).wf = true) : -2147483648 ≤ a ∧ a ≤ 2147483647 := by
  simp only [Lit.wf, Bool.and_eq_true, decide_eq_true_eq] at h; exact h
/-- A slice of runes, as it is read. -/
theorem open_runes {H : Type} {enc : TypeId × Value → H} {w : World} {base : Nat} {spare : Nat → Bool} {held : Bool} {cs : List Value} {v : Value} (hcs : cs = [v]) {d : DataW H × List MemPlace}
    (h : ∃ fuel, DataW.trod enc Try.prog w base spare held fuel 22 cs = some d) : ∃ X : List Int, Sl .i32 w v X ∧ Rn X ∧ X.length ≤ maxLen := by
  obtain ⟨fuel, h⟩ := h
  subst hcs
  rcases Deep.open_slice1 Try.underlying22 cellsR h with ⟨h1, _⟩ | ⟨a, len, cap, m, n, V, D, Pl, h1, hb, hl, hm, hmm, _, hx⟩
  · simp at h1
    exact ⟨[], ⟨none, 0, h1, Nat.le_refl _, fun _ => ⟨rfl, rfl⟩, fun j hj => by simp at hj⟩, fun z hz => by simp at hz, Nat.zero_le _⟩
  simp at h1; subst h1
  by_cases h0 : len = 0
  · subst h0
    exact ⟨[], ⟨some a, cap, rfl, Nat.zero_le _, fun e => (by cases e), fun j hj => by simp at hj⟩, fun z hz => by simp at hz, Nat.zero_le _⟩
  have hlm : len ≤ m := by rw [hmm]; split <;> omega
  have each : ∀ i, i < m → ∃ q : Int, w.cell? (a.add i) = some (.int .i32 q) ∧ -2147483648 ≤ q ∧ q ≤ 2147483647 := by
    intro i hi
    obtain ⟨c1, h2⟩ := hx i hi
    obtain ⟨z0, q0, _, p0⟩ := DataW.trod_int Try.underlying21 h2
    simp at q0
    rw [q0] at c1
    exact ⟨z0, c1, rune_wf p0⟩
  obtain ⟨o0, ho0, _⟩ := each 0 (by omega)
  obtain ⟨q, hq⟩ := Deep.choose_lt (α := Int) (p := fun i q => w.cell? (a.add i) = some (.int .i32 q) ∧ -2147483648 ≤ q ∧ q ≤ 2147483647) each
  obtain ⟨b, off, e1, hlt⟩ := cell_none ho0
  have e2 : a = ⟨b, off, none⟩ := by simpa [Addr.add] using e1
  subst e2
  refine ⟨(List.range len).map q, ⟨some ⟨b, off, none⟩, cap, by simp, by simpa using hl, fun e => (by cases e), fun j hj => ⟨b, off, rfl, hlt, ?_⟩⟩, fun z hz => ?_, by rw [List.length_map, List.length_range]; omega⟩
  · have hj' : j < len := by simpa using hj
    have := (hq j (by omega)).1
    rw [add_none] at this
    simpa using this
  · obtain ⟨j, hj, rfl⟩ := List.mem_map.1 hz
    exact (hq j (by have := List.mem_range.1 hj; omega)).2
/-- Labels in memory: each with its value, and the runes that it holds. -/
structure Lab (w : World) (ao : Option Addr) (xs : List (Value × List Int)) : Prop where
  at_ : ∀ j (h : j < xs.length), ∃ b off, ao = some ⟨b, off, none⟩ ∧ b < w.heap.size ∧ w.cell? ⟨b, off + j, none⟩ = some xs[j].1
  sl : ∀ z ∈ xs, Sl .i32 w z.1 z.2
  rn : ∀ z ∈ xs, Rn z.2
theorem Lab.step {w w' : World} {ao : Option Addr} {xs : List (Value × List Int)} (h : Lab w ao xs) (hb : Below w.heap.size w w') : Lab w' ao xs :=
  ⟨fun j hj => by
    obtain ⟨b, off, e, hlt, hc⟩ := h.at_ j hj
    exact ⟨b, off, e, Nat.lt_of_lt_of_le hlt hb.size, (hb.cell (p := ⟨b, off + j, none⟩) hlt).trans hc⟩, fun z hz => (h.sl z hz).step hb, h.rn⟩
def LabV (w : World) (v : Value) (xs : List (Value × List Int)) : Prop := (∃ ao cap, v = .slice ao xs.length cap ∧ Lab w ao xs) ∧ xs.length ≤ maxLen
theorem open_labels {H : Type} {enc : TypeId × Value → H} {w : World} {base : Nat} {spare : Nat → Bool} {held : Bool} {cs : List Value} {v : Value} (hcs : cs = [v]) {d : DataW H × List MemPlace}
    (h : ∃ fuel, DataW.trod enc Try.prog w base spare held fuel 34 cs = some d) : ∃ xs : List (Value × List Int), LabV w v xs := by
  obtain ⟨fuel, h⟩ := h
  subst hcs
  rcases Deep.open_slice1 Try.underlying34 cellsRs h with ⟨h1, _⟩ | ⟨a, len, cap, m, n, V, D, Pl, h1, hb, hl, hm, hmm, _, hx⟩
  · simp at h1
    exact ⟨[], ⟨none, 0, h1, fun j hj => by simp at hj, fun z hz => by simp at hz, fun z hz => by simp at hz⟩, Nat.zero_le _⟩
  simp at h1; subst h1
  by_cases h0 : len = 0
  · subst h0
    exact ⟨[], ⟨some a, cap, rfl, fun j hj => by simp at hj, fun z hz => by simp at hz, fun z hz => by simp at hz⟩, Nat.zero_le _⟩
  have hlm : len ≤ m := by rw [hmm]; split <;> omega
  have each : ∀ i, i < m → ∃ q : List Int, Sl .i32 w (V i) q ∧ Rn q := by
    intro i hi
    obtain ⟨X, h2, h3, _⟩ := open_runes (v := V i) rfl ⟨_, (hx i hi).2⟩
    exact ⟨X, h2, h3⟩
  obtain ⟨q, hq⟩ := Deep.choose_lt (α := List Int) (p := fun i q => Sl .i32 w (V i) q ∧ Rn q) each
  obtain ⟨b, off, e1, hlt⟩ := cell_none (hx 0 (by omega)).1
  have e2 : a = ⟨b, off, none⟩ := by simpa [Addr.add] using e1
  subst e2
  refine ⟨(List.range len).map (fun i => (V i, q i)), ⟨some ⟨b, off, none⟩, cap, by simp, fun j hj => ⟨b, off, rfl, hlt, ?_⟩, fun z hz => ?_, fun z hz => ?_⟩, by rw [List.length_map, List.length_range]; omega⟩
  · have hj' : j < len := by simpa using hj
    have := (hx j (by omega)).1
    rw [add_none] at this
    simpa using this
  · obtain ⟨j, hj, rfl⟩ := List.mem_map.1 hz
    exact (hq j (by have := List.mem_range.1 hj; omega)).1
  · obtain ⟨j, hj, rfl⟩ := List.mem_map.1 hz
    exact (hq j (by have := List.mem_range.1 hj; omega)).2
/-- The first place that is so, or -1. -/
def Fst (p : Nat → Bool) (n : Nat) (z : Int) : Prop := (z = -1 ∧ ∀ j, j < n → p j = false) ∨ ∃ k : Nat, z = k ∧ k < n ∧ p k = true ∧ ∀ j, j < k → p j = false
theorem Fst.one {p : Nat → Bool} {n : Nat} {y z : Int} (h : Fst p n y) (h' : Fst p n z) : y = z := by
  rcases h with ⟨rfl, h⟩ | ⟨k, rfl, hk, h1, h2⟩ <;> rcases h' with ⟨rfl, h'⟩ | ⟨k', rfl, hk', h1', h2'⟩
  · rfl
  · rw [h k' hk'] at h1'; cases h1'
  · rw [h' k hk] at h1; cases h1
  · by_cases e : k = k'
    · rw [e]
    · rcases Nat.lt_or_gt_of_ne e with e | e
      · rw [h2' k e] at h1; cases h1
      · rw [h2 k' e] at h1'; cases h1'
def bro (xs : List (Value × List Int)) (j : Nat) : Bool := !(brP (xs.getD j (.bool false, [])).2 == 0)
def rto (xs : List (Value × List Int)) (j : Nat) : Bool := rtP (xs.getD j (.bool false, [])).2
/-- A function that asks something of a label. -/
structure Asks (g : Nat) (cb : Array Value) (q : List Int → Bool) (G : World → Prop) : Prop where
  enter : ∀ args w, (callFunc g args).run Try.prog w = .ok (.enter g args) w
  call : ∀ W v X, G W → Sl .i32 W v X → X.length ≤ 1000000 → Calls Try.prog g (#[v] ++ cb) W fun e w' => e = .returned (.bool (q X)) ∧ Below W.heap.size W w'
  keep : ∀ W W', G W → Below W.heap.size W W' → G W'
set_option maxRecDepth 100000 in
set_option maxHeartbeats 2000000 in
theorem idxl_any {G : World → Prop} {q : List Int → Bool} {g : Nat} {cb : Array Value} (w : World) (ao : Option Addr) (n cap : Nat) (hC : Asks g cb q G) (xs : List (Value × List Int)) (hX : xs.length = n) (hS : Lab w ao xs) (hs : ∀ z ∈ xs, z.2.length ≤ 1000000) (hG : G w) (hn : n ≤ 1000000) :
    Calls Try.prog 30 #[.slice ao n cap, .func (.func g) #[] cb] w fun e w' => ∃ z : Int, e = .returned (.int .i64 z) ∧ Fst (fun j => q (xs.getD j (.bool false, [])).2) n z ∧ Below w.heap.size w w' := by
  have HC := hr hC
  have HX := hr hX
  have HS := hr hS
  have Hs := hr hs
  have H0 : Hid (G w ∧ Ok w.heap.size w w) := ⟨hG, Ok.start w⟩
  clear hC hX hS hG hs
  have hen := HC.out.enter
  go_enter Try.func30, Try.ntmps30
  go_wp2_with fail
  go_loopg [8] n (fun gg vi wr => ∃ k : Nat, vi = .int .i64 k ∧ k ≤ n ∧ gg = n - k ∧ Hid ((∀ j, j < k → q (xs.getD j (.bool false, [])).2 = false) ∧ G wr ∧ Ok w.heap.size w wr))
  case atStart => exact ⟨0, rfl, Nat.zero_le _, rfl, fun j h => by omega, H0.out⟩
  case round =>
    obtain ⟨k, rfl, hk, hg, H⟩ := hrel
    have HG := hr hg
    clear hg H0
    by_cases hlt : k < n
    · have hlx : k < xs.length := by have := HX.out; omega
      obtain ⟨b, off, rfl, hb, c1⟩ := HS.out.at_ k hlx
      have d1 := (H.out.2.2.1.cell (p := ⟨b, off + k, none⟩) hb).trans c1
      have eg : xs.getD k (.bool false, []) = xs[k] := by rw [List.getD_eq_getElem?_getD, List.getElem?_eq_getElem hlx]; rfl
      have HV := hr (HC.out.call wr xs[k].1 xs[k].2 H.out.2.1 ((HS.out.sl _ (List.getElem_mem hlx)).step H.out.2.2.1) (Hs.out _ (List.getElem_mem hlx)))
      have z1 : (k : Int) < (n : Int) := by omega
      have HQ : Hid (q xs[k].2 = q (xs.getD k (.bool false, [])).2) := by show _ = _; rw [eg]
      clear c1 eg
      generalize xs[k].1 = v at *
      rw [HQ.out] at HV
      cases hp : q (xs.getD k (.bool false, [])).2
      · have HN0 : Hid (∀ j, j < k + 1 → q (xs.getD j (.bool false, [])).2 = false) := fun j h => by
          by_cases e : j = k
          · subst e; exact hp
          · exact H.out.1 j (by omega)
        rw [hp] at HV
        clear hp
        go_wp2_with fail
        refine HV.out.mono ?_
        rintro e w' ⟨rfl, hb'⟩
        have HN : Hid (G w' ∧ Ok w.heap.size w w') := ⟨HC.out.keep _ _ H.out.2.1 hb', H.out.2.2.step hb'⟩
        clear hb'
        go_wp2_with fail
        go_roundg (n - (k + 1))
        case measure => rw [HG.out]; omega
        case rel => exact ⟨k + 1, by go_num, by omega, rfl, HN0.out, HN.out⟩
      · have HE : Hid (Fst (fun j => q (xs.getD j (.bool false, [])).2) n (k : Int)) := .inr ⟨k, rfl, hlt, hp, H.out.1⟩
        rw [hp] at HV
        clear hp
        go_wp2_with fail
        refine HV.out.mono ?_
        rintro e w' ⟨rfl, hb'⟩
        have hok := hr (H.out.2.2.step hb')
        clear hb'
        go_wp2_with fail
        try rw [Exit.noGoto_ret]
        go_ret
        exact ⟨_, rfl, HE.out, hok.out.1⟩
    · have z1 : ¬ (k : Int) < (n : Int) := by omega
      have HE : Hid (Fst (fun j => q (xs.getD j (.bool false, [])).2) n (-1)) := .inl ⟨rfl, fun j hj => H.out.1 j (by omega)⟩
      go_wp2_with fail
      go_ret
      exact ⟨_, rfl, HE.out, H.out.2.2.1⟩
end Bi
end Go.Proofs.Ytemdmalcoemhnaa

namespace Go.Proofs.Ytemdmalcoemhnaa
namespace Bi
open Go.RowKit Od

def anyL (q : List Int → Bool) (xs : List (Value × List Int)) : Bool := xs.any (fun z => q z.2)
theorem fst_any {q : List Int → Bool} {xs : List (Value × List Int)} {n : Nat} {z : Int} (hX : xs.length = n) (h : Fst (fun j => q (xs.getD j (.bool false, [])).2) n z) : decide (0 ≤ z) = anyL q xs := by
  have hg : ∀ j (hj : j < xs.length), xs.getD j (.bool false, []) = xs[j] := fun j hj => by rw [List.getD_eq_getElem?_getD, List.getElem?_eq_getElem hj]; rfl
  unfold anyL
  rcases h with ⟨rfl, h⟩ | ⟨k, rfl, hk, h1, h2⟩
  · rw [decide_eq_false (by omega)]
    symm
    rw [List.any_eq_false]
    intro y hy
    obtain ⟨j, hj, rfl⟩ := List.mem_iff_getElem.1 hy
    have := h j (by omega)
    simp only [hg j hj] at this
    rw [this]; decide
  · rw [decide_eq_true (by omega)]
    symm
    rw [List.any_eq_true]
    have hk' : k < xs.length := by omega
    simp only [hg k hk'] at h1
    exact ⟨xs[k], List.getElem_mem hk', h1⟩
set_option maxHeartbeats 1000000 in
theorem contl_any {G : World → Prop} {q : List Int → Bool} {g : Nat} {cb : Array Value} (w : World) (ao : Option Addr) (n cap : Nat) (hC : Asks g cb q G) (xs : List (Value × List Int)) (hX : xs.length = n) (hS : Lab w ao xs) (hs : ∀ z ∈ xs, z.2.length ≤ 1000000) (hG : G w) (hn : n ≤ 1000000) :
    Calls Try.prog 32 #[.slice ao n cap, .func (.func g) #[] cb] w fun e w' => e = .returned (.bool (anyL q xs)) ∧ Below w.heap.size w w' := by
  have HI := hr (idxl_any w ao n cap hC xs hX hS hs hG hn)
  have HF := hr (fun z h => fst_any (q := q) (xs := xs) (z := z) hX h)
  clear hC hX hS hG hn hs
  go_enter Try.func32, Try.ntmps32
  go_wp2_with fail
  refine HI.out.mono ?_
  rintro e w1 ⟨z, rfl, h1, hb⟩
  have HE := hr (HF.out z h1)
  have HB := hr hb
  clear h1 hb
  go_wp2_with fail
  go_ret
  exact ⟨ret_bool HE.out, HB.out⟩
/-- What a question of a label holds: a box of the book. -/
def Gb (b pb : Nat) (W : World) : Prop := Bk W b ∧ Bx W pb (.pointer (some ⟨b, 0, none⟩)) 23
theorem Gb.step {b pb : Nat} {W W' : World} (h : Gb b pb W) (hb : Below W.heap.size W W') : Gb b pb W' := ⟨h.1.step hb, h.2.step hb⟩
set_option maxHeartbeats 1000000 in
theorem brk1_any {b pb : Nat} (W : World) (v : Value) (X : List Int) (hG : Gb b pb W) (hS : Sl .i32 W v X) (hn : X.length ≤ 1000000) :
    Calls Try.prog 31 #[v, .pointer (some ⟨pb, 0, none⟩)] W fun e w' => e = .returned (.bool (!(brP X == 0))) ∧ Below W.heap.size W w' := by
  obtain ⟨ao, cap, rfl, hS⟩ := hS
  have HV := hr (broken_any hG.1 rfl hS hn)
  have c0 := hG.2.cell
  have HO := hr (Ok.start W)
  clear hG hS hn
  generalize brP X = z at *
  go_enter Try.func31, Try.ntmps31
  go_wp2_with fail
  refine HV.out.mono ?_
  rintro e w1 ⟨rfl, hb⟩
  replace HO := hr (HO.out.step hb)
  clear hb HV
  go_wp2_with fail
  go_ret
  exact ⟨rfl, HO.out.1⟩
set_option maxHeartbeats 1000000 in
theorem rtl1_any {b pb : Nat} (W : World) (v : Value) (X : List Int) (hG : Gb b pb W) (hS : Sl .i32 W v X) (hn : X.length ≤ 1000000) :
    Calls Try.prog 33 #[v, .pointer (some ⟨pb, 0, none⟩)] W fun e w' => e = .returned (.bool (rtP X)) ∧ Below W.heap.size W w' := by
  obtain ⟨ao, cap, rfl, hS⟩ := hS
  have HV := hr (rtl_any hG.1 rfl hS hn)
  have c0 := hG.2.cell
  have HO := hr (Ok.start W)
  clear hG hS hn
  generalize rtP X = z at *
  go_enter Try.func33, Try.ntmps33
  go_wp2_with fail
  refine HV.out.mono ?_
  rintro e w1 ⟨rfl, hb⟩
  replace HO := hr (HO.out.step hb)
  clear hb HV
  go_wp2_with fail
  go_ret
  exact ⟨rfl, HO.out.1⟩
theorem ask_brk (b pb : Nat) : Asks 31 #[.pointer (some ⟨pb, 0, none⟩)] (fun X => !(brP X == 0)) (Gb b pb) :=
  ⟨enters_of Try.func31 (by kernel_rfl) rfl, fun W v X h1 h2 h3 => brk1_any W v X h1 h2 h3, fun _ _ h hb => h.step hb⟩
theorem ask_rtl (b pb : Nat) : Asks 33 #[.pointer (some ⟨pb, 0, none⟩)] rtP (Gb b pb) :=
  ⟨enters_of Try.func33 (by kernel_rfl) rfl, fun W v X h1 h2 h3 => rtl1_any W v X h1 h2 h3, fun _ _ h hb => h.step hb⟩
theorem gb_new {w : World} {b : Nat} (hB : Bk w b) : Gb b w.heap.size (w.alloc (.cells #[.pointer (some ⟨b, 0, none⟩)] 23)) := ⟨hB.step ((Ok.start w).alloc.1), Bx.new w _ _⟩
set_option maxRecDepth 100000 in
set_option maxHeartbeats 2000000 in
theorem both_any {w : World} {b : Nat} (hB : Bk w b) {ao : Option Addr} {n cap : Nat} {xs : List (Value × List Int)} (hX : xs.length = n) (hS : Lab w ao xs) (hs : ∀ z ∈ xs, z.2.length ≤ 1000000) (hn : n ≤ 1000000) :
    Calls Try.prog 15 #[.pointer (some ⟨b, 0, none⟩), .slice ao n cap] w fun e w' => e = .returned (.bool (anyL rtP xs)) ∧ Below w.heap.size w w' := by
  have HV := hr (contl_any _ ao n cap (ask_rtl b w.heap.size) xs hX (hS.step ((Ok.start w).alloc.1)) hs (gb_new hB) hn)
  have HO := hr ((Ok.start w).alloc (o := .cells #[.pointer (some ⟨b, 0, none⟩)] 23))
  clear hB hX hS hn hs
  generalize anyL rtP xs = q at *
  go_enter Try.func15, Try.ntmps15
  go_wp2_with fail
  refine HV.out.mono ?_
  rintro e w1 ⟨rfl, hb⟩
  replace HO := hr (HO.out.step hb)
  clear hb HV
  go_wp2_with fail
  go_ret
  exact ⟨rfl, HO.out.1⟩
/-- What First tells. -/
def fiV (q : Bool) (z : Int) : Value := if q = true ∧ 0 ≤ z then .tuple #[.int .i64 z, .bool true] else .tuple #[.int .i64 0, .bool false]
set_option maxRecDepth 100000 in
set_option maxHeartbeats 4000000 in
theorem first_any {w : World} {b : Nat} (hB : Bk w b) {ao : Option Addr} {n cap : Nat} {xs : List (Value × List Int)} (hX : xs.length = n) (hS : Lab w ao xs) (hs : ∀ z ∈ xs, z.2.length ≤ 1000000) (hn : n ≤ 1000000) :
    Calls Try.prog 14 #[.pointer (some ⟨b, 0, none⟩), .slice ao n cap] w fun e w' => (∃ z, e = .returned (fiV (anyL rtP xs) z) ∧ Fst (bro xs) n z) ∧ Below w.heap.size w w' := by
  have HB := hr (fun (W : World) (h : Below w.heap.size w W) => both_any (cap := cap) (hB.step h) hX (hS.step h) hs hn)
  have HI := hr (fun (W : World) (h : Below w.heap.size w W) (hg : Gb b w.heap.size W) => idxl_any W ao n cap (ask_brk b w.heap.size) xs hX (hS.step h) hs hg hn)
  have HG := hr (gb_new hB)
  have HO := hr ((Ok.start w).alloc (o := .cells #[.pointer (some ⟨b, 0, none⟩)] 23))
  have HEx : Hid (∃ z, Fst (bro xs) n z) := by
    have : ∀ m, ∃ z, Fst (bro xs) m z := fun m => by
      induction m with
      | zero => exact ⟨-1, .inl ⟨rfl, fun j hj => by omega⟩⟩
      | succ m ih =>
        obtain ⟨z, ⟨rfl, h⟩ | ⟨k, rfl, h1, h2, h3⟩⟩ := ih
        · cases hm : bro xs m
          · exact ⟨-1, .inl ⟨rfl, fun j hj => by
              by_cases e : j = m
              · subst e; exact hm
              · exact h j (by omega)⟩⟩
          · exact ⟨m, .inr ⟨m, rfl, by omega, hm, h⟩⟩
        · exact ⟨k, .inr ⟨k, rfl, by omega, h2, h3⟩⟩
    exact this n
  have c0 := HG.out.2.cell
  clear hB hX hS hn hs
  generalize anyL rtP xs = q at *
  go_enter Try.func14, Try.ntmps14
  go_wp2_with fail
  refine (HB.out _ HO.out.1).mono ?_
  rintro e w1 ⟨rfl, hb⟩
  replace HG := hr (HG.out.step hb)
  replace HO := hr (HO.out.step hb)
  clear hb HB c0
  cases q
  · go_wp2_with fail
    go_ret2
    obtain ⟨z, hz⟩ := HEx.out
    exact ⟨⟨z, rfl, hz⟩, HO.out.1⟩
  · go_wp2_with fail
    refine (HI.out _ HO.out.1 HG.out).mono ?_
    rintro e w2 ⟨z, rfl, hz, hb⟩
    have HZ : Hid (Fst (bro xs) _ z) := hz
    replace HO := hr (HO.out.step hb)
    clear hb hz HI
    by_cases h0 : z < 0
    · go_wp2_with fail
      go_ret2
      exact ⟨⟨z, by unfold fiV; rw [if_neg (fun h => by omega)]; rfl, HZ.out⟩, HO.out.1⟩
    · go_wp2_with fail
      go_ret2
      exact ⟨⟨z, by unfold fiV; rw [if_pos ⟨rfl, by omega⟩]; rfl, HZ.out⟩, HO.out.1⟩
theorem Fst.none_ {p : Nat → Bool} {k : Nat} {z : Int} (h : Fst p k z) (hz : z < 0) (hp : p k = false) : Fst p (k + 1) z := by
  rcases h with ⟨rfl, h⟩ | ⟨j, rfl, _⟩
  · exact .inl ⟨rfl, fun j hj => by
      by_cases e : j = k
      · subst e; exact hp
      · exact h j (by omega)⟩
  · omega
theorem Fst.hit {p : Nat → Bool} {k : Nat} {z : Int} (h : Fst p k z) (hz : z < 0) (hp : p k = true) : Fst p (k + 1) (k : Int) := by
  rcases h with ⟨rfl, h⟩ | ⟨j, rfl, _⟩
  · exact .inr ⟨k, rfl, by omega, hp, h⟩
  · omega
theorem Fst.past {p : Nat → Bool} {k : Nat} {z : Int} (h : Fst p k z) (hz : ¬ z < 0) : Fst p (k + 1) z := by
  rcases h with ⟨rfl, h⟩ | ⟨j, rfl, h1, h2, h3⟩
  · omega
  · exact .inr ⟨j, rfl, by omega, h2, h3⟩
theorem any_snoc (q : List Int → Bool) (xs : List (Value × List Int)) (k : Nat) (h : k < xs.length) : anyL q (xs.take (k + 1)) = (anyL q (xs.take k) || q xs[k].2) := by
  unfold anyL
  rw [List.take_succ_eq_append_getElem h, List.any_append]
  simp
theorem bro_at (xs : List (Value × List Int)) (k : Nat) (h : k < xs.length) : bro xs k = !(brP xs[k].2 == 0) := by
  unfold bro
  rw [List.getD_eq_getElem?_getD, List.getElem?_eq_getElem h]; rfl
end Bi
end Go.Proofs.Ytemdmalcoemhnaa
