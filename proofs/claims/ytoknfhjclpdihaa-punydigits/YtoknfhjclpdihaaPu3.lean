import Derived.Test.YtoknfhjclpdihaaPu2
import Derived.Test.YtoknfhjclpdihaaOrd8
namespace Go.Proofs.Ytoknfhjclpdihaa
namespace Pu
open Go.RowKit Od

/-- The lowest bit. -/
def lb (i : Nat) : Nat := i - Nat.land i (i - 1)
/-- Does the stretch that ends at an index hold a place? -/
def hasP (p i : Nat) : Bool := decide (i - lb i ≤ p) && decide (p < i)
set_option maxRecDepth 1000000 in
theorem lb_ck : (List.range 129).all (fun i => i == 0 || (decide (1 ≤ lb i) && decide (lb i ≤ i))) = true := by kernel_rfl
theorem lb_bd {i : Nat} (h0 : 1 ≤ i) (h : i ≤ 128) : 1 ≤ lb i ∧ lb i ≤ i := by
  have := List.all_eq_true.1 lb_ck i (List.mem_range.2 (by omega))
  simp only [Bool.or_eq_true, Bool.and_eq_true, beq_iff_eq, decide_eq_true_eq] at this
  omega
def ckUp (i : Nat) : Bool := (List.range (lb i)).all fun j => hasP (i - lb i + j) (i + lb i) && (List.range (lb i - 1)).all fun t => !hasP (i - lb i + j) (i + 1 + t)
set_option maxRecDepth 1000000 in
theorem up_ck : (List.range 129).all ckUp = true := by kernel_rfl
/-- The next index whose stretch holds a place, and that there is none between. -/
theorem up_next {p i : Nat} (h : i ≤ 128) (hp : hasP p i = true) : hasP p (i + lb i) = true ∧ ∀ q, i < q → q < i + lb i → hasP p q = false := by
  unfold hasP at hp
  rw [Bool.and_eq_true, decide_eq_true_eq, decide_eq_true_eq] at hp
  have hb := lb_bd (show 1 ≤ i by omega) h
  have h1 := List.all_eq_true.1 up_ck i (List.mem_range.2 (by omega))
  unfold ckUp at h1
  have h2 := List.all_eq_true.1 h1 (p - (i - lb i)) (List.mem_range.2 (by omega))
  rw [show i - lb i + (p - (i - lb i)) = p by omega, Bool.and_eq_true] at h2
  refine ⟨h2.1, fun q q1 q2 => ?_⟩
  have h3 := List.all_eq_true.1 h2.2 (q - (i + 1)) (List.mem_range.2 (by omega))
  rw [show i + 1 + (q - (i + 1)) = q by omega] at h3
  simpa using h3
theorem has_first (p : Nat) (h : p < 128) : hasP p (p + 1) = true := by
  have := lb_bd (show 1 ≤ p + 1 by omega) (by omega)
  unfold hasP
  rw [decide_eq_true (by omega), decide_eq_true (by omega)]; rfl

/-- The sum of the first ones. -/
def ps (a : List Int) (q : Nat) : Int := (a.take q).sum
theorem ps_succ (a : List Int) (q : Nat) (h : q < a.length) : ps a (q + 1) = ps a q + a[q] := by
  unfold ps
  rw [List.take_succ_eq_append_getElem h, List.sum_append]
  simp
theorem ps_set (a : List Int) (p : Nat) (v : Int) (h : p < a.length) : ∀ q, ps (a.set p v) q = ps a q + if p < q then v - a[p] else 0
  | 0 => by simp [ps]
  | q + 1 => by
    have ih := ps_set a p v h q
    by_cases hq : q < a.length
    · rw [ps_succ _ _ (by rw [List.length_set]; exact hq), ps_succ _ _ hq, ih, List.getElem_set]
      by_cases e : p = q
      · subst e
        rw [if_pos rfl, if_neg (by omega), if_pos (by omega)]; omega
      · rw [if_neg e]
        by_cases e2 : p < q
        · rw [if_pos e2, if_pos (by omega)]; omega
        · rw [if_neg e2, if_neg (by omega)]; omega
    · have e1 : ps (a.set p v) (q + 1) = ps (a.set p v) q := by unfold ps; rw [List.take_of_length_le (by rw [List.length_set]; omega), List.take_of_length_le (by rw [List.length_set]; omega)]
      have e2 : ps a (q + 1) = ps a q := by unfold ps; rw [List.take_of_length_le (by omega), List.take_of_length_le (by omega)]
      rw [e1, e2, ih, if_pos (by omega), if_pos (by omega)]

/-- A tally: its sums are over stretches. -/
structure Tal (R a : List Int) : Prop where
  len : R.length = a.length + 1
  le : a.length ≤ 127
  bd : ∀ x ∈ a, 0 ≤ x ∧ x ≤ 1
  sums : ∀ q, 1 ≤ q → q ≤ a.length → R.getD q 0 = ps a q - ps a (q - lb q)
theorem ps_bd (a : List Int) (h : ∀ x ∈ a, 0 ≤ x ∧ x ≤ 1) : ∀ q, 0 ≤ ps a q ∧ ps a q ≤ q
  | 0 => by simp [ps]
  | q + 1 => by
    have ih := ps_bd a h q
    by_cases hq : q < a.length
    · rw [ps_succ _ _ hq]
      have := h a[q] (List.getElem_mem hq)
      omega
    · have e2 : ps a (q + 1) = ps a q := by unfold ps; rw [List.take_of_length_le (by omega), List.take_of_length_le (by omega)]
      rw [e2]; omega
theorem Tal.cell_bd {R a : List Int} (h : Tal R a) (q : Nat) (q1 : 1 ≤ q) (q2 : q ≤ a.length) : -127 ≤ R.getD q 0 ∧ R.getD q 0 ≤ 127 := by
  have h1 := ps_bd a h.bd q
  have h2 := ps_bd a h.bd (q - lb q)
  have h3 := h.le
  rw [h.sums q q1 q2]
  omega
/-- How a tally looks ahead of an index while a place grows. -/
def Mid (R0 R : List Int) (p i : Nat) (m : Int) : Prop := R.length = R0.length ∧ ∀ q, q < R0.length → R.getD q 0 = R0.getD q 0 + if q < i ∧ hasP p q = true then m else 0
theorem getD_set (l : List Int) (k q : Nat) (v : Int) (h : k < l.length) : (l.set k v).getD q 0 = if q = k then v else l.getD q 0 := by
  rw [List.getD_eq_getElem?_getD, List.getElem?_set, List.getD_eq_getElem?_getD]
  by_cases e : q = k
  · subst e
    rw [if_pos rfl, if_pos rfl, if_pos h]; rfl
  · rw [if_neg (Ne.symm e), if_neg e]
theorem Mid.step {R0 R : List Int} {p i : Nat} {m : Int} (h : Mid R0 R p i m) (hi : i < R0.length) (hb : i ≤ 128) (hp : hasP p i = true) : Mid R0 (R.set i (R.getD i 0 + m)) p (i + lb i) m := by
  obtain ⟨h1, h2⟩ := up_next hb hp
  have hl := lb_bd (show 1 ≤ i by unfold hasP at hp; rw [Bool.and_eq_true, decide_eq_true_eq, decide_eq_true_eq] at hp; omega) hb
  refine ⟨by rw [List.length_set]; exact h.1, fun q hq => ?_⟩
  rw [getD_set _ _ _ _ (by rw [h.1]; exact hi)]
  by_cases e : q = i
  · subst e
    rw [if_pos rfl, h.2 q hq, if_neg (by omega), if_pos ⟨by omega, hp⟩]; omega
  · rw [if_neg e, h.2 q hq]
    by_cases e2 : q < i
    · by_cases e3 : hasP p q = true
      · rw [if_pos ⟨e2, e3⟩, if_pos ⟨by omega, e3⟩]
      · rw [if_neg (fun h => e3 h.2), if_neg (fun h => e3 h.2)]
    · rw [if_neg (fun h => e2 h.1)]
      by_cases e3 : q < i + lb i
      · rw [if_neg (fun h => by have := h2 q (by omega) e3; rw [this] at h; cases h.2)]
      · rw [if_neg (fun h => e3 h.1)]
theorem Mid.start (R0 : List Int) (p : Nat) (m : Int) : Mid R0 R0 p (p + 1) m := by
  refine ⟨rfl, fun q _ => ?_⟩
  rw [if_neg (fun h => ?_)]
  · omega
  · have := h.2
    unfold hasP at this
    rw [Bool.and_eq_true, decide_eq_true_eq, decide_eq_true_eq] at this
    omega
theorem Mid.done {R0 R a : List Int} {p i : Nat} {m : Int} (h : Mid R0 R p i m) (hT : Tal R0 a) (hi : R0.length ≤ i) (hp : p < a.length) (hm : 0 ≤ a[p] + m ∧ a[p] + m ≤ 1) : Tal R (a.set p (a[p] + m)) := by
  have hl := hT.len
  have hle := hT.le
  refine ⟨by rw [h.1, List.length_set]; exact hl, by rw [List.length_set]; exact hle, fun x hx => ?_, fun q q1 q2 => ?_⟩
  · rcases List.mem_or_eq_of_mem_set hx with hx | rfl
    · exact hT.bd x hx
    · exact hm
  rw [List.length_set] at q2
  have hb := lb_bd q1 (by omega)
  rw [h.2 q (by omega), hT.sums q q1 q2, ps_set _ _ _ hp, ps_set _ _ _ hp]
  unfold hasP
  by_cases e1 : p < q
  · by_cases e2 : p < q - lb q
    · rw [if_neg (fun h => by have := h.2; rw [Bool.and_eq_true, decide_eq_true_eq] at this; omega), if_pos e1, if_pos e2]; omega
    · rw [if_pos ⟨by omega, by rw [decide_eq_true (by omega), decide_eq_true e1]; rfl⟩, if_pos e1, if_neg e2]; omega
  · rw [if_neg (fun h => by have := h.2; rw [Bool.and_eq_true, decide_eq_true_eq, decide_eq_true_eq] at this; omega), if_neg e1, if_neg (by omega)]; omega

set_option maxRecDepth 1000000 in
theorem and_ck : (List.range 129).all (fun i => bits BinOp.and IntKind.i64 (i : Int) (-(i : Int)) == (lb i : Int)) = true := by kernel_rfl
theorem and_lb {i : Nat} (h : i ≤ 128) : bits BinOp.and IntKind.i64 (i : Int) (-(i : Int)) = (lb i : Int) := by
  have := List.all_eq_true.1 and_ck i (List.mem_range.2 (by omega))
  simpa using this

set_option maxRecDepth 100000 in
set_option maxHeartbeats 2000000 in
theorem tadd_any {w : World} {b cap : Nat} {R a : List Int} {T : List Value} (h : Blk w b R T) (hT : Tal R a) (p : Nat) (hp : p < a.length) (m : Int) (hm : 0 ≤ a[p] + m ∧ a[p] + m ≤ 1) (n : Nat) (hn : R.length = n) :
    Calls Try.prog 24 #[.slice (some ⟨b, 0, none⟩) n cap, .int .i64 p, .int .i64 m] w fun e w' => e = .returned (.tuple #[]) ∧ (∃ R', Blk w' b R' T ∧ Tal R' (a.set p (a[p] + m)) ∧ R'.length = n) ∧ Alt b w w' := by
  have hle := hT.le
  have hln := hT.len
  have hap := hT.bd a[p] (List.getElem_mem hp)
  have HT := hid hT
  have HB := hid h
  have HM := hid hm
  have HP := hid hp
  have HN := hid hn
  have m1 : -1 ≤ m ∧ m ≤ 1 := by omega
  have n1 : n ≤ 128 := by omega
  have p1 : p + 1 ≤ 127 := by omega
  have H1 := hid (has_first p (by omega))
  have HL : Hid (a.length + 1 = n) := by show _ = _; omega
  clear h hT hm hle hln hap hn
  go_enter Try.func24, Try.ntmps24
  go_wp2_with fail
  go_loopg [6] (n - (p + 1)) (fun gg vi wr => ∃ (i : Nat) (Rc : List Int), vi = .int .i64 i ∧ gg = n - i ∧ i ≤ 256 ∧ Hid (Mid R Rc p i m ∧ hasP p i = true ∧ Blk wr b Rc T ∧ Alt b w wr))
  case atStart => exact ⟨p + 1, R, by go_num, rfl, by omega, Mid.start R p m, H1.out, HB.out, Alt.refl _ _⟩
  case round =>
    obtain ⟨i, Rc, rfl, hg, hi6, H⟩ := hrel
    have HG := hid hg
    clear hg
    by_cases hlt : i < n
    · have z1 : (i : Int) < (n : Int) := by omega
      have hpi := H.out.2.1
      have hi1 : 1 ≤ i := by
        unfold hasP at hpi
        rw [Bool.and_eq_true, decide_eq_true_eq, decide_eq_true_eq] at hpi
        omega
      clear hpi
      have hlR : i < R.length := by rw [HN.out]; exact hlt
      have hlc : i < Rc.length := by rw [H.out.1.1]; exact hlR
      have c1 := H.out.2.2.1.cell i (Rc.getD i 0) (by rw [List.getD_eq_getElem?_getD, List.getElem?_eq_getElem hlc]; rfl)
      have f1 := fun k => H.out.2.2.1.frozen k
      have hx : -127 ≤ Rc.getD i 0 ∧ Rc.getD i 0 ≤ 127 := by
        rw [H.out.1.2 i hlR, if_neg (by omega), Int.add_zero]
        exact HT.out.cell_bd i hi1 (by have := HL.out; omega)
      have HS := hid (H.out.1.step hlR (by omega) H.out.2.1)
      have HNx := hid (up_next (show i ≤ 128 by omega) H.out.2.1).1
      have HBs := hid (H.out.2.2.1.set i (Rc.getD i 0 + m) hlc)
      have HA := hid (fun v => H.out.2.2.2.set i v)
      have hlb := lb_bd hi1 (by omega)
      have ha := and_lb (show i ≤ 128 by omega)
      clear H hlR hlc
      generalize Rc.getD i 0 = x at *
      generalize lb i = l at *
      go_wp2_with fail
      go_roundg (n - (i + l))
      case measure => rw [HG.out]; omega
      case rel => exact ⟨i + l, Rc.set i (x + m), by go_num, rfl, by omega, HS.out, HNx.out, HBs.out, HA.out _⟩
    · have z1 : ¬ (i : Int) < (n : Int) := by omega
      go_wp2_with fail
      go_end0
      exact ⟨rfl, ⟨Rc, H.out.2.2.1, H.out.1.done HT.out (by rw [HN.out]; omega) HP.out HM.out, by rw [H.out.1.1, HN.out]⟩, H.out.2.2.2⟩

set_option maxRecDepth 100000 in
set_option maxHeartbeats 2000000 in
theorem tahead_any {w : World} {b cap : Nat} {R a : List Int} {T : List Value} (h : Blk w b R T) (hT : Tal R a) (p : Nat) (hp : p ≤ a.length) (n : Nat) (hn : R.length = n) :
    Calls Try.prog 26 #[.slice (some ⟨b, 0, none⟩) n cap, .int .i64 p] w fun e w' => e = .returned (.int .i64 (ps a p)) ∧ w' = w := by
  have hle := hT.le
  have hln := hT.len
  have HT := hid hT
  have HB := hid h
  have n1 : n ≤ 128 := by omega
  have HL : Hid (a.length + 1 = n ∧ R.length = n) := ⟨by omega, hn⟩
  have pn : p + 1 ≤ n := by omega
  clear h hT hle hln hn hp
  go_enter Try.func26, Try.ntmps26
  go_wp2_with fail
  go_loop [5, 6] (fun vs vi => ∃ (i : Nat) (s : Int), vi = .int .i64 i ∧ vs = .int .i64 s ∧ i ≤ p ∧ -1000 ≤ s ∧ s ≤ 1000 ∧ Hid (s + ps a i = ps a p)) (fun _ vi => (intOf vi).toNat)
  case atStart => exact ⟨p, 0, rfl, rfl, Nat.le_refl _, by omega, by omega, by show _ = _; omega⟩
  case round =>
    obtain ⟨i, s, rfl, rfl, hi, s1, s2, H⟩ := hrel
    by_cases h0 : 1 ≤ i
    · have z1 : (0 : Int) < (i : Int) := by omega
      have z2 : (i : Int) < (n : Int) := by omega
      have hlc : i < R.length := by have := HL.out; omega
      have hia : i ≤ a.length := by have := HL.out; omega
      have c1 := HB.out.cell i (R.getD i 0) (by rw [List.getD_eq_getElem?_getD, List.getElem?_eq_getElem hlc]; rfl)
      have hx := HT.out.cell_bd i h0 hia
      have hsum := HT.out.sums i h0 hia
      have hlb := lb_bd h0 (show i ≤ 128 by omega)
      have ha := and_lb (show i ≤ 128 by omega)
      have b1 := ps_bd a HT.out.bd p
      have b2 := ps_bd a HT.out.bd (i - lb i)
      have HS : Hid (s + R.getD i 0 + ps a (i - lb i) = ps a p) := by show _ = _; have := H.out; omega
      have s3 : -1000 ≤ s + R.getD i 0 ∧ s + R.getD i 0 ≤ 1000 := by have := HS.out; have := HL.out; omega
      clear H hsum hlc hia b1 b2
      generalize R.getD i 0 = x at *
      generalize lb i = l at *
      go_wp2_with fail
      go_round
      case rel => exact ⟨i - l, s + x, by first | go_num | (congr 1; omega), by go_num, by omega, s3.1, s3.2, HS.out⟩
      case measure => simp [intOf]; omega
    · have e : i = 0 := by omega
      subst e
      have HR : Hid (ps a p = s) := by
        show _ = _
        have := H.out
        have e0 : ps a 0 = 0 := by simp [ps]
        omega
      go_wp2_with fail
      go_ret
      exact ⟨ret_int HR.out.symm, rfl⟩
end Pu
end Go.Proofs.Ytoknfhjclpdihaa
