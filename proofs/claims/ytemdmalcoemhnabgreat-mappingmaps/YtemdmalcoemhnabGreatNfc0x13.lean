import Derived.Test.YtemdmalcoemhnabGreatOrd1
import Derived.Test.YtemdmalcoemhnabGreatPr10x16
import Derived.Test.YtemdmalcoemhnabGreatHan1x2
import Derived.Test.YtemdmalcoemhnabGreatRngx25
namespace Go.Proofs.YtemdmalcoemhnabGreat
namespace Nf
open Od Pr Ha

/-- A syllable's parts. -/
def sylL (r : Int) : List Int := if talI r = 0 then [ledI r, vowI r] else [ledI r, vowI r, talI r]
/-- What a code point is made of, as the table tells it. -/
def dnP (r : Int) : Pt := rdP r allP
/-- Taken apart, so many times. -/
def apF : Nat → Int → List Int
  | 0, r => [r]
  | n + 1, r => if sylB r = true then sylL r else if (dnP r).2.2 = 1 then apF n (dnP r).1 else if (dnP r).2.2 = 2 then apF n (dnP r).1 ++ apF n (dnP r).2.1 else [r]
/-- As many times as are wanted. -/
def okF : Nat → Int → Bool
  | 0, _ => false
  | n + 1, r => if sylB r = true then true else if (dnP r).2.2 = 1 then okF n (dnP r).1 else if (dnP r).2.2 = 2 then okF n (dnP r).1 && okF n (dnP r).2.1 else true
def apP (r : Int) : List Int := apF 6 r

theorem apF_succ : ∀ (n : Nat) (r : Int), okF n r = true → apF (n + 1) r = apF n r
  | 0, _, h => by cases h
  | n + 1, r, h => by
    simp only [okF] at h
    show (if sylB r = true then sylL r else if (dnP r).2.2 = 1 then apF (n + 1) (dnP r).1 else if (dnP r).2.2 = 2 then apF (n + 1) (dnP r).1 ++ apF (n + 1) (dnP r).2.1 else [r]) = (if sylB r = true then sylL r else if (dnP r).2.2 = 1 then apF n (dnP r).1 else if (dnP r).2.2 = 2 then apF n (dnP r).1 ++ apF n (dnP r).2.1 else [r])
    by_cases h1 : sylB r = true
    · rw [if_pos h1, if_pos h1]
    · rw [if_neg h1] at h ⊢
      rw [if_neg h1]
      by_cases h2 : (dnP r).2.2 = 1
      · rw [if_pos h2] at h ⊢
        rw [if_pos h2, apF_succ n _ h]
      · rw [if_neg h2] at h ⊢
        rw [if_neg h2]
        by_cases h3 : (dnP r).2.2 = 2
        · rw [if_pos h3, Bool.and_eq_true] at h
          rw [if_pos h3, if_pos h3, apF_succ n _ h.1, apF_succ n _ h.2]
        · rw [if_neg h3, if_neg h3]

/-- What is not in the table is made of nothing. -/
theorem dn_out (r : Int) (h : ∀ x ∈ allP, x.1 ≠ r) : dnP r = (0, 0, 0) := rd_none r allP h
set_option maxRecDepth 1000000 in
theorem rows_ok : allP.all (fun x => okF 5 x.1) = true := by kernel_rfl
set_option maxRecDepth 1000000 in
theorem rows_atoms : allP.all (fun x => (apF 6 x.1).all (fun y => apF 6 y == [y])) = true := by kernel_rfl
set_option maxRecDepth 1000000 in
theorem rows_far : allP.all (fun x => !(decide (4352 ≤ x.1) && decide (x.1 ≤ 4546)) && !sylB x.1) = true := by kernel_rfl
end Nf
end Go.Proofs.YtemdmalcoemhnabGreat

namespace Go.Proofs.YtemdmalcoemhnabGreat
namespace Nf
open Od Pr Ha

theorem ok5 (r : Int) : okF 5 r = true := by
  by_cases h : ∃ x ∈ allP, x.1 = r
  · obtain ⟨x, hx, rfl⟩ := h
    exact List.all_eq_true.1 rows_ok x hx
  · have e := dn_out r (fun x hx e => h ⟨x, hx, e⟩)
    simp only [okF]
    rw [e]
    simp
/-- Taken apart. -/
theorem ap_eq (r : Int) : apP r = if sylB r = true then sylL r else if (dnP r).2.2 = 1 then apP (dnP r).1 else if (dnP r).2.2 = 2 then apP (dnP r).1 ++ apP (dnP r).2.1 else [r] := by
  have e : ∀ x, apF 5 x = apP x := fun x => (apF_succ 5 x (ok5 x)).symm
  show (if sylB r = true then sylL r else if (dnP r).2.2 = 1 then apF 5 (dnP r).1 else if (dnP r).2.2 = 2 then apF 5 (dnP r).1 ++ apF 5 (dnP r).2.1 else [r]) = _
  rw [e, e]
theorem dn_d (r : Int) : d1 r = (dnP r).1 ∧ d2 r = (dnP r).2.1 ∧ d3 r = (dnP r).2.2 := by
  unfold d1 d2 d3 dnP
  rw [rd_dn]
  exact ⟨rfl, rfl, rfl⟩
theorem ap_plain (r : Int) (h1 : sylB r = false) (h2 : ∀ x ∈ allP, x.1 ≠ r) : apP r = [r] := by
  rw [ap_eq, if_neg (by rw [h1]; decide), dn_out r h2]
  rfl
theorem far (r : Int) (h : 4352 ≤ r ∧ r ≤ 4546) : ∀ x ∈ allP, x.1 ≠ r := by
  intro x hx e
  have := List.all_eq_true.1 rows_far x hx
  rw [Bool.and_eq_true, Bool.not_eq_true', Bool.and_eq_false_iff, decide_eq_false_iff_not, decide_eq_false_iff_not] at this
  omega
theorem jamo (r : Int) (h : 4352 ≤ r ∧ r ≤ 4546) : apP r = [r] := ap_plain r (decide_eq_false (by omega)) (far r h)
theorem syl_row (x : R3) (hx : x ∈ allP) : sylB x.1 = false := by
  have := List.all_eq_true.1 rows_far x hx
  rw [Bool.and_eq_true, Bool.not_eq_true'] at this
  simpa using this.2
theorem syl_bd {r : Int} (h : sylB r = true) : 44032 ≤ r ∧ r ≤ 55203 := by
  have := of_decide_eq_true h
  omega
theorem sylL_bd {r : Int} (h : sylB r = true) : ∀ y ∈ sylL r, 4352 ≤ y ∧ y ≤ 4546 := by
  have hb := syl_bd h
  have h1 := led_bd r hb
  have h2 := vow_bd r
  have h3 := tal_bd r
  intro y hy
  unfold sylL at hy
  split at hy
  · simp at hy; omega
  · rename_i h4
    have h5 : 4352 ≤ talI r := by
      unfold talI at h4 ⊢
      split at h4
      · rw [if_pos ‹_›]; omega
      · exact absurd rfl h4
    simp at hy
    omega
/-- What is taken apart can't be taken apart any more. -/
theorem ap_atoms (r : Int) : ∀ y ∈ apP r, apP y = [y] := by
  intro y hy
  by_cases h1 : sylB r = true
  · rw [ap_eq, if_pos h1] at hy
    exact jamo y (sylL_bd h1 y hy)
  · by_cases h : ∃ x ∈ allP, x.1 = r
    · obtain ⟨x, hx, rfl⟩ := h
      have := List.all_eq_true.1 (List.all_eq_true.1 rows_atoms x hx) y hy
      show apF 6 y = [y]
      simpa using this
    · have e := ap_plain r (by simpa using h1) (fun x hx e => h ⟨x, hx, e⟩)
      rw [e] at hy
      simp at hy
      subst hy
      exact e
end Nf
end Go.Proofs.YtemdmalcoemhnabGreat

namespace Go.Proofs.YtemdmalcoemhnabGreat
namespace Nf
open Od Pr Ha

/-- What two make: a pair's, or a syllable. -/
def mkB (a b : Int) : Bool := u2 a b || lvB a b || otB a b
def mkI (a b : Int) : Int := if u2 a b = true then u1 a b else if lvB a b = true then lvI a b else otI a b

theorem lv_parts (a b : Int) (h : lvB a b = true) : sylB (lvI a b) = true ∧ ledI (lvI a b) = a ∧ vowI (lvI a b) = b ∧ talI (lvI a b) = 0 ∧ (4352 ≤ a ∧ a ≤ 4370) ∧ (4449 ≤ b ∧ b ≤ 4469) := by
  unfold lvB witB at h
  rw [Bool.and_eq_true, decide_eq_true_eq, decide_eq_true_eq] at h
  refine ⟨decide_eq_true ?_, ?_, ?_, ?_, by omega, by omega⟩
  · unfold lvI; omega
  · unfold ledI lvI; omega
  · unfold vowI lvI; omega
  · unfold talI lvI
    rw [if_neg (by omega)]
theorem ot_parts (a b : Int) (h : otB a b = true) : sylB a = true ∧ talI a = 0 ∧ sylB (otI a b) = true ∧ ledI (otI a b) = ledI a ∧ vowI (otI a b) = vowI a ∧ talI (otI a b) = b ∧ (4520 ≤ b ∧ b ≤ 4546) := by
  unfold otB opnB witB at h
  rw [Bool.and_eq_true, Bool.and_eq_true, decide_eq_true_eq, decide_eq_true_eq] at h
  obtain ⟨⟨h1, h2⟩, h3⟩ := h
  have hb := syl_bd h1
  refine ⟨h1, ?_, decide_eq_true ?_, ?_, ?_, ?_, by omega⟩
  · unfold talI; rw [if_neg (by omega)]
  · unfold otI; omega
  · unfold ledI otI; omega
  · unfold vowI otI; omega
  · unfold talI otI
    rw [if_pos (by omega)]; omega
/-- What two make is taken apart into what they are. -/
theorem mk_ap (a b : Int) (h : mkB a b = true) : apP (mkI a b) = apP a ++ apP b := by
  unfold mkB at h
  unfold mkI
  by_cases h1 : u2 a b = true
  · rw [if_pos h1]
    obtain ⟨e3, e1, e2, _⟩ := bk2 a b h1
    obtain ⟨f1, f2, f3⟩ := dn_d (u1 a b)
    have hs : sylB (u1 a b) = false := by
      unfold u2 at h1
      unfold u1
      cases hu : upF allP (a, b) with
      | none => rw [hu] at h1; cases h1
      | some z =>
        obtain ⟨R, hR, _, _, rfl⟩ := up_mem allP _ z hu
        exact syl_row R hR
    rw [ap_eq, if_neg (by rw [hs]; decide), ← f3, e3, if_neg (by decide), if_pos rfl, ← f1, ← f2, e1, e2]
  · rw [if_neg h1]
    have h1' : u2 a b = false := by simpa using h1
    by_cases h2 : lvB a b = true
    · rw [if_pos h2]
      obtain ⟨e1, e2, e3, e4, e5, e6⟩ := lv_parts a b h2
      rw [ap_eq, if_pos e1, sylL, if_pos e4, e2, e3, jamo a (by omega), jamo b (by omega)]
      rfl
    · have h2' : lvB a b = false := by simpa using h2
      have h3 : otB a b = true := by rw [h1', h2'] at h; simpa using h
      rw [if_neg h2]
      obtain ⟨e1, e2, e3, e4, e5, e6, e7⟩ := ot_parts a b h3
      rw [ap_eq (otI a b), if_pos e3, sylL, e4, e5, e6, if_neg (by omega), jamo b (by omega), ap_eq a, if_pos e1, sylL, if_pos e2]
      rfl

section
variable (c : Int → Int)
/-- The form that is taken apart. -/
def nfdP (l : List Int) : List Int := srt c (l.flatMap apP)
/-- The greatest class. -/
def gr (M : List Int) : Int := M.foldl (fun g r => if g < c r then c r else g) 0
theorem gr_snoc (M : List Int) (r : Int) : gr c (M ++ [r]) = if gr c M < c r then c r else gr c M := by unfold gr; rw [List.foldl_append]; rfl
theorem gr_ge : ∀ (M : List Int) (g0 : Int), g0 ≤ M.foldl (fun g r => if g < c r then c r else g) g0 ∧ ∀ m ∈ M, c m ≤ M.foldl (fun g r => if g < c r then c r else g) g0
  | [], g0 => ⟨Int.le_refl _, fun m hm => by simp at hm⟩
  | x :: M, g0 => by
    have h := gr_ge M (if g0 < c x then c x else g0)
    simp only [List.foldl_cons]
    refine ⟨?_, fun m hm => ?_⟩
    · have := h.1
      split at this <;> split <;> omega
    · rcases List.mem_cons.1 hm with rfl | hm
      · have := h.1
        split at this <;> split <;> omega
      · exact h.2 m hm
/-- A state of putting together: what stands ahead of the starter, the starter, what stands behind it. -/
abbrev CS := List Int × Option Int × List Int
def outC (s : CS) : List Int := s.1 ++ s.2.1.toList ++ s.2.2
def tryC (s : CS) (r : Int) : Bool := match s.2.1 with
  | none => false
  | some x => !(decide (0 < gr c s.2.2) && decide (c r ≤ gr c s.2.2)) && mkB x r
def stepC (s : CS) (r : Int) : CS :=
  if tryC c s r = true then (s.1, s.2.1.map (fun x => mkI x r), s.2.2) else if c r = 0 then (outC s, some r, []) else (s.1, s.2.1, s.2.2 ++ [r])
def compP (l : List Int) : List Int := outC (l.foldl (stepC c) ([], none, []))
def nfcP (l : List Int) : List Int := compP c (nfdP c l)

theorem outC_no (s : CS) (r : Int) (h : tryC c s r = false) : outC (stepC c s r) = outC s ++ [r] := by
  unfold stepC
  rw [h]
  simp only [Bool.false_eq_true, if_false]
  split
  · simp [outC]
  · simp [outC]

/-- What putting together keeps. -/
theorem comp_keeps (hc : ∀ x, 0 ≤ c x) (D : List Int) : ∀ (rest : List Int) (s : CS), (∀ x ∈ rest, apP x = [x]) → (∀ m ∈ s.2.2, apP m = [m] ∧ 0 < c m) → srt c ((outC s).flatMap apP ++ rest) = srt c D → srt c ((outC (rest.foldl (stepC c) s)).flatMap apP) = srt c D
  | [], s, _, _, h => by simpa using h
  | r :: rest, s, ha, hm, h => by
    have har := ha r (by simp)
    rw [List.foldl_cons]
    refine comp_keeps hc D rest (stepC c s r) (fun x hx => ha x (by simp [hx])) ?_ ?_
    · unfold stepC
      split
      · exact hm
      · split
        · intro m hm'; simp at hm'
        · rename_i h0
          intro m hm'
          rcases List.mem_append.1 hm' with hm' | hm'
          · exact hm m hm'
          · simp at hm'
            subst hm'
            have := hc m
            exact ⟨har, by omega⟩
    · rw [← h]
      by_cases ht : tryC c s r = true
      · obtain ⟨A, so, M⟩ := s
        cases so with
        | none => cases ht
        | some x =>
          unfold tryC at ht
          simp only at ht hm
          rw [Bool.and_eq_true, Bool.not_eq_true', Bool.and_eq_false_iff, decide_eq_false_iff_not, decide_eq_false_iff_not] at ht
          obtain ⟨hb, hmk⟩ := ht
          have hMr : ∀ m ∈ M, c m < c r := by
            intro m hm'
            have h1 := (gr_ge c M 0).2 m hm'
            have h2 := (hm m hm').2
            have h3 : gr c M = M.foldl (fun g r => if g < c r then c r else g) 0 := rfl
            rw [← h3] at h1
            rcases hb with hb | hb <;> omega
          have hMf : M.flatMap apP = M := by
            clear h hMr hb
            induction M with
            | nil => rfl
            | cons m M ih =>
              rw [List.flatMap_cons, (hm m (by simp)).1, ih (fun x hx => hm x (by simp [hx]))]
              rfl
          have e1 : (outC (stepC c (A, some x, M) r)).flatMap apP ++ rest = (A.flatMap apP ++ apP x) ++ ([r] ++ M) ++ rest := by
            have ht' : tryC c (A, some x, M) r = true := by
              unfold tryC
              simp only
              rw [Bool.and_eq_true, Bool.not_eq_true', Bool.and_eq_false_iff, decide_eq_false_iff_not, decide_eq_false_iff_not]
              exact ⟨hb, hmk⟩
            unfold stepC
            rw [if_pos ht']
            simp only [outC, Option.map_some, Option.toList_some, List.flatMap_append, List.flatMap_cons, List.flatMap_nil, List.append_nil]
            rw [mk_ap x r hmk, har, hMf]
            simp
          have e2 : (outC (A, some x, M)).flatMap apP ++ r :: rest = (A.flatMap apP ++ apP x) ++ (M ++ [r]) ++ rest := by
            simp only [outC, Option.toList_some, List.flatMap_append, List.flatMap_cons, List.flatMap_nil, List.append_nil]
            rw [hMf]
            simp
          rw [e1, e2]
          have hsw := (sw_blocks c M [r] (fun y hy => (hm y hy).2) (fun x hx y hy => by simp at hx; subst hx; exact hMr y hy)).ctx (A.flatMap apP ++ apP x) rest
          exact hsw.srt_eq.symm
      · rw [outC_no c s r (by simpa using ht), List.flatMap_append]
        simp [har]

theorem flat_atoms : ∀ (l : List Int), (∀ x ∈ l, apP x = [x]) → l.flatMap apP = l
  | [], _ => rfl
  | x :: l, h => by rw [List.flatMap_cons, h x (by simp), flat_atoms l (fun y hy => h y (by simp [hy]))]; rfl
theorem nfd_atoms (l : List Int) : ∀ x ∈ nfdP c l, apP x = [x] := by
  intro x hx
  have h1 := (sw_srt c (l.flatMap apP)).perm.mem_iff.2 hx
  obtain ⟨r, _, hr⟩ := List.mem_flatMap.1 h1
  exact ap_atoms r x hr
theorem nfd_nfd (l : List Int) : nfdP c (nfdP c l) = nfdP c l := by
  show srt c ((nfdP c l).flatMap apP) = _
  rw [flat_atoms _ (nfd_atoms c l)]
  exact srt_twice c _
theorem nfd_nfc (hc : ∀ x, 0 ≤ c x) (l : List Int) : nfdP c (nfcP c l) = nfdP c l := by
  have h := comp_keeps c hc (nfdP c l) (nfdP c l) ([], none, []) (nfd_atoms c l) (fun m hm => by simp at hm) (by simp [outC])
  show srt c ((compP c (nfdP c l)).flatMap apP) = _
  unfold compP
  rw [h]
  exact srt_twice c _
theorem nfc_nfd (l : List Int) : nfcP c (nfdP c l) = nfcP c l := by unfold nfcP; rw [nfd_nfd]
theorem nfc_nfc (hc : ∀ x, 0 ≤ c x) (l : List Int) : nfcP c (nfcP c l) = nfcP c l := by
  show compP c (nfdP c (nfcP c l)) = _
  rw [nfd_nfc c hc]
  rfl
/-- Two are canonically the same just if their NFC is. -/
theorem nfc_same (hc : ∀ x, 0 ≤ c x) (a b : List Int) : nfdP c a = nfdP c b ↔ nfcP c a = nfcP c b := by
  constructor
  · intro h; unfold nfcP; rw [h]
  · intro h; rw [← nfd_nfc c hc a, ← nfd_nfc c hc b, h]
end
end Nf
end Go.Proofs.YtemdmalcoemhnabGreat

namespace Go.Proofs.YtemdmalcoemhnabGreat
namespace Nf
open Go.RowKit Od Pr Ha

theorem hid {p : Prop} (h : p) : Hid p := h
/-- A former, and its book and pairs. -/
structure Fm (w : World) (f b p d u s : Nat) : Prop where
  blk : w.heap[f]? = some (.cells #[.pointer (some ⟨b, 0, none⟩), .pointer (some ⟨p, 0, none⟩)] 71)
  bk : Bk w b
  pw : PW w p d u s allP 395
theorem Fm.step {w w' : World} {f b p d u s : Nat} (h : Fm w f b p d u s) (hb : Below w.heap.size w w') : Fm w' f b p d u s :=
  ⟨(hb.block f (Array.getElem?_eq_some_iff.1 h.blk).1).trans h.blk, h.bk.step hb, h.pw.step hb⟩
theorem Fm.cells {w : World} {f b p d u s : Nat} (h : Fm w f b p d u s) : w.cell? ⟨f, 0, none⟩ = some (.pointer (some ⟨b, 0, none⟩)) ∧ w.cell? ⟨f, 1, none⟩ = some (.pointer (some ⟨p, 0, none⟩)) := by
  have := h.blk
  simp [World.cell?, this]

theorem apF_len : ∀ (n : Nat) (r : Int), (apF n r).length ≤ 3 * 2 ^ n
  | 0, _ => by simp [apF]
  | n + 1, r => by
    have h1 := apF_len n (dnP r).1
    have h2 := apF_len n (dnP r).2.1
    have h3 : 1 ≤ 2 ^ n := Nat.one_le_two_pow
    simp only [apF, Nat.pow_succ]
    split
    · unfold sylL
      split <;> simp <;> omega
    · split
      · omega
      · split
        · rw [List.length_append]; omega
        · simp; omega
theorem dn_I32 (r : Int) : I32 (dnP r).1 ∧ I32 (dnP r).2.1 := by
  obtain ⟨e1, e2, e3⟩ := dn_d r
  obtain ⟨h1, h2, _⟩ := d_bd r
  rw [← e1, ← e2]
  exact ⟨h1, h2⟩
theorem apF_I32 : ∀ (n : Nat) (r : Int), I32 r → ∀ y ∈ apF n r, I32 y
  | 0, r, h, y, hy => by simp [apF] at hy; subst hy; exact h
  | n + 1, r, h, y, hy => by
    simp only [apF] at hy
    split at hy
    · rename_i hs
      have := sylL_bd hs y hy
      exact ⟨by omega, by omega⟩
    · split at hy
      · exact apF_I32 n _ (dn_I32 r).1 y hy
      · split at hy
        · rcases List.mem_append.1 hy with hy | hy
          · exact apF_I32 n _ (dn_I32 r).1 y hy
          · exact apF_I32 n _ (dn_I32 r).2 y hy
        · simp at hy; subst hy; exact h

/-- append(s, x, y) of two runes, s of the call's own. -/
theorem app_two {ops : Array Oper} {rest : List Oper} {o : Oper} {a : Act} {Q : Exit → Act → World → Prop} (hgd : o.guard = none) (s x : Operand)
    (ho : o.op = .call { callee := .builtin .append, args := #[s, x], argTypes := #[22, 22] }) (W : World) (B n : Nat) (v : Value) (xs : List Value) (r q : Int) (hs : a.eval s = v) (N : Nat) (hN : W.heap.size = N) (hx : a.eval x = .slice (some ⟨N, 0, none⟩) 2 2)
    (hown : W.ownsRow B 21 1 v n xs) (hn : n ≤ 1000000000) (hB : B ≤ W.heap.size)
    (h : ∀ v' w', w'.ownsRow B 21 1 v' (n + 2) (xs ++ [.int .i32 r, .int .i32 q]) → Below B W w' → wpList Tryz.prog ops Q rest (a.put o.dst v') w') :
    wpList Tryz.prog ops Q (o :: rest) a (W.alloc (.cells #[.int .i32 r, .int .i32 q] 21)) := by
  subst hN
  obtain ⟨i0, hi, hz0, hz1, hz2⟩ := info_parts Od.Tryz.info_i32
  refine wpList_append_own_at _ hgd s x 22 ho B 21 i0 (.int .i32 0) 1 4 Tryz.underlying22 hi hz0 hz1 hz2 rfl (by decide) v n xs hs (hown.alloc _) ⟨W.heap.size, 0, none⟩ 2 2 [.int .i32 r, .int .i32 q] hx rfl
    (World.news_of_block (heap_new W _)) (fun u hu => by simp at hu; rcases hu with rfl | rfl <;> rfl) (by unfold maxLen; omega) (by omega) (by simp; omega) (fun v' w' h1 h2 _ _ => h v' w' h1 ?_)
  exact ((Below.refl _ _).alloc hB _).trans (Od.below_of_grown h2 B (by simp; omega) (fun k e => (hown.lt k e).1))

/-- A row of runes of the call's own, above what the former holds. -/
def Ow (w0 w : World) (B : Nat) (v : Value) (xs : List Int) : Prop := w.ownsRow B 21 1 v xs.length (ivs .i32 xs) ∧ Below w0.heap.size w0 w ∧ w0.heap.size ≤ B ∧ B ≤ w.heap.size
theorem Ow.put {w0 w w' : World} {B : Nat} {v v' : Value} {xs ys : List Int} (h : Ow w0 w B v xs) (h1 : w'.ownsRow B 21 1 v' (xs.length + ys.length) (ivs .i32 xs ++ ivs .i32 ys)) (h2 : Below B w w') : Ow w0 w' B v' (xs ++ ys) := by
  refine ⟨?_, h.2.1.trans (h2.mono h.2.2.1), h.2.2.1, Nat.le_trans h.2.2.2 h2.size⟩
  rw [List.length_append, show ivs .i32 (xs ++ ys) = ivs .i32 xs ++ ivs .i32 ys by simp [ivs]]
  exact h1
theorem Ow.step {w0 w w' : World} {B : Nat} {v : Value} {xs : List Int} (h : Ow w0 w B v xs) (hb : Below w.heap.size w w') : Ow w0 w' B v xs :=
  ⟨Uc.own_below h.1 hb, h.2.1.trans (hb.mono h.2.1.size), h.2.2.1, Nat.le_trans h.2.2.2 hb.size⟩

set_option maxRecDepth 100000 in
set_option maxHeartbeats 4000000 in
theorem apart_any {w0 : World} {f b p d u s : Nat} (hF : Fm w0 f b p d u s) : ∀ (n : Nat) (r : Int), okF n r = true → I32 r → ∀ (w : World) (B : Nat) (v : Value) (xs : List Int), Ow w0 w B v xs → xs.length + 3 * 2 ^ n ≤ 1000000000 →
    Calls Tryz.prog 55 #[.pointer (some ⟨f, 0, none⟩), v, .int .i32 r] w fun e w' => ∃ v', e = .returned v' ∧ Ow w0 w' B v' (xs ++ apF n r) ∧ Below B w w'
  | 0, _, h, _, _, _, _, _, _, _ => by cases h
  | n + 1, r, hok, hr, w, B, v, xs, hO, hlen => by
    have ih := apart_any hF n
    have HF := hid hF
    have HIH := hid ih
    have HO := hid hO
    have h2n : 1 ≤ 2 ^ n := Nat.one_le_two_pow
    rw [Nat.pow_succ] at hlen
    have hxl : xs.length ≤ 999999994 := by omega
    simp only [okF] at hok
    by_cases hs : sylB r = true
    · obtain ⟨hs1, hs2⟩ := syl_bd hs
      have HE : Hid (apF (n + 1) r = sylL r) := by show _ = _; simp only [apF]; rw [if_pos hs]
      have HSp := hid (fun w => split_yes r w hs1 hs2)
      have HSL : Hid (sylL r = if talI r = 0 then [ledI r, vowI r] else [ledI r, vowI r, talI r]) := rfl
      clear ih hF hO hok hs hs1 hs2
      generalize ledI r = a at *
      generalize vowI r = c at *
      generalize talI r = t at *
      by_cases ht : t = 0
      · have HS0 : Hid (sylL r = [a, c]) := by show _ = _; rw [HSL.out, if_pos ht]
        clear HSL
        subst ht
        go_enter Tryz.func55, Tryz.ntmps55
        go_wp2_with (first | (go_at_call 67; refine (HSp.out _).mono ?_; rintro e w1 ⟨rfl, rfl⟩) | (at_builtin; refine app_two rfl (.tmp 22) (.tmp 25) rfl w1 B xs.length v (ivs .i32 xs) a c rfl w1.heap.size rfl rfl HO.out.1 (by omega) HO.out.2.2.2 (fun v' w' h1 h2 => ?_)))
        go_ret
        have hP := HO.out.put (ys := [a, c]) h1 h2
        exact ⟨_, rfl, by rw [HE.out, HS0.out]; exact hP, h2⟩
      · have htz : (t != 0) = true := by simpa using ht
        have HTn := hid ht
        go_enter Tryz.func55, Tryz.ntmps55
        go_wp2_with (first | (go_at_call 67; refine (HSp.out _).mono ?_; rintro e w1 ⟨rfl, rfl⟩) | (at_builtin; refine app_two rfl (.tmp 22) (.tmp 25) rfl w1 B xs.length v (ivs .i32 xs) a c rfl w1.heap.size rfl rfl HO.out.1 (by omega) HO.out.2.2.2 (fun v' w' h1 h2 => ?_); have HP := hid (HO.out.put (ys := [a, c]) h1 h2); have HB2 := hid h2; clear h1 h2) | (at_builtin; refine app_i32 rfl (.tmp 29) (.tmp 31) rfl w' B (xs ++ [a, c]).length v' (ivs .i32 (xs ++ [a, c])) t rfl w'.heap.size rfl rfl HP.out.1 (by rw [List.length_append]; simp; omega) HP.out.2.2.2 (fun v2 w2 h1 h2 => ?_)))
        go_ret
        have hP := HP.out.put (ys := [t]) h1 h2
        refine ⟨_, rfl, ?_, HB2.out.trans h2⟩
        rw [HE.out, HSL.out, if_neg HTn.out]
        simpa using hP
    · have HSp := hid (fun w => split_no r w (fun h => hs (decide_eq_true (by omega))))
      rw [if_neg hs] at hok
      obtain ⟨e1, e2, e3⟩ := dn_d r
      obtain ⟨i1, i2⟩ := dn_I32 r
      have HPw := hid ((hF.step (w' := w) hO.2.1).pw)
      have HDn := hid (down_g HPw.out hr)
      have hcf := (hF.step (w' := w) hO.2.1).cells.2
      rw [e1, e2, e3] at HDn
      have HE : Hid (apF (n + 1) r = if (dnP r).2.2 = 1 then apF n (dnP r).1 else if (dnP r).2.2 = 2 then apF n (dnP r).1 ++ apF n (dnP r).2.1 else [r]) := by show _ = _; simp only [apF]; rw [if_neg hs]
      have hlA := apF_len n (dnP r).1
      clear ih hF hO hs e1 e2 e3
      generalize hy : dnP r = y at *
      obtain ⟨a, c, m⟩ := y
      simp only at hok i1 i2 HDn HE hlA
      clear hy
      by_cases h1 : m = 1
      · subst h1
        have HR : Hid (apF (n + 1) r = apF n a) := by show _ = _; rw [HE.out, if_pos rfl]
        rw [if_pos rfl] at hok
        go_enter Tryz.func55, Tryz.ntmps55
        go_wp2_with (first | (go_at_call 67; refine (HSp.out _).mono ?_; rintro e w1 ⟨rfl, rfl⟩) | (go_at_call 68; refine HDn.out.mono ?_; rintro e w1 ⟨rfl, hb1⟩; have HO1 := hid (HO.out.step hb1); have HB1 := hid hb1; clear hb1) | (go_at_call 55; refine (HIH.out a hok i1 w1 B v xs HO1.out (by omega)).mono ?_; rintro e w2 ⟨v2, rfl, h3, h4⟩))
        go_ret
        exact ⟨_, rfl, by rw [HR.out]; exact h3, (HB1.out.mono HO.out.2.2.2).trans h4⟩
      · rw [if_neg h1] at hok
        by_cases h2 : m = 2
        · subst h2
          have HR : Hid (apF (n + 1) r = apF n a ++ apF n c) := by show _ = _; rw [HE.out, if_neg h1, if_pos rfl]
          rw [if_pos rfl, Bool.and_eq_true] at hok
          clear h1
          go_enter Tryz.func55, Tryz.ntmps55
          go_wp2_with (first | (go_at_call 67; refine (HSp.out _).mono ?_; rintro e w1 ⟨rfl, rfl⟩) | (go_at_call 68; refine HDn.out.mono ?_; rintro e w1 ⟨rfl, hb1⟩; have HO1 := hid (HO.out.step hb1); have HB1 := hid hb1; clear hb1))
          refine (HIH.out a hok.1 i1 _ B v xs HO1.out (by omega)).mono ?_
          rintro e w2 ⟨v2, rfl, h3, h4⟩
          have HO2 := hid h3
          have HB2 := hid h4
          clear h3 h4
          go_wp2_with fail
          refine (HIH.out c hok.2 i2 _ B v2 (xs ++ apF n a) HO2.out (by rw [List.length_append]; omega)).mono ?_
          rintro e w3 ⟨v3, rfl, h3, h4⟩
          have HO3 := hid h3
          have HB3 := hid h4
          clear h3 h4
          go_wp2_with fail
          go_ret
          exact ⟨_, rfl, by rw [HR.out, ← List.append_assoc]; exact HO3.out, ((HB1.out.mono HO.out.2.2.2).trans HB2.out).trans HB3.out⟩
        · have HR : Hid (apF (n + 1) r = [r]) := by show _ = _; rw [HE.out, if_neg h1, if_neg h2]
          have q1 : (m == 1) = false := by simpa using h1
          have q2 : (m == 2) = false := by simpa using h2
          go_enter Tryz.func55, Tryz.ntmps55
          go_wp2_with (first | (go_at_call 67; refine (HSp.out _).mono ?_; rintro e w1 ⟨rfl, rfl⟩) | (go_at_call 68; refine HDn.out.mono ?_; rintro e w1 ⟨rfl, hb1⟩; have HO1 := hid (HO.out.step hb1); have HB1 := hid hb1; clear hb1) | (at_builtin; refine app_i32 rfl (.tmp 60) (.tmp 62) rfl w1 B xs.length v (ivs .i32 xs) r rfl w1.heap.size rfl rfl HO1.out.1 (by omega) HO1.out.2.2.2 (fun v2 w2 h3 h4 => ?_)))
          go_ret
          have hP := HO1.out.put (ys := [r]) h3 h4
          exact ⟨_, rfl, by rw [HR.out]; exact hP, (HB1.out.mono HO.out.2.2.2).trans h4⟩
end Nf
end Go.Proofs.YtemdmalcoemhnabGreat

namespace Go.Proofs.YtemdmalcoemhnabGreat
namespace Nf
open Go.RowKit Od Pr Ha

theorem ap5 (x : Int) : apF 5 x = apP x := (apF_succ 5 x (ok5 x)).symm
theorem ap_len (x : Int) : (apP x).length ≤ 96 := by rw [← ap5]; exact apF_len 5 x
theorem flat_len : ∀ l : List Int, (l.flatMap apP).length ≤ 96 * l.length
  | [] => by simp
  | x :: l => by
    have h1 := ap_len x
    have h2 := flat_len l
    rw [List.flatMap_cons, List.length_append, List.length_cons]
    omega

/-- What a starter and a code point make. -/
def mkV (a b : Int) : Int := if mkB a b = true then mkI a b else 0
set_option maxRecDepth 100000 in
set_option maxHeartbeats 2000000 in
theorem together_any {w : World} {f b p d u s : Nat} (hF : Fm w f b p d u s) {x y : Int} (hx : I32 x) (hy : I32 y) :
    Calls Tryz.prog 54 #[.pointer (some ⟨f, 0, none⟩), .int .i32 x, .int .i32 y] w fun e w' => e = .returned (.tuple #[.int .i32 (mkV x y), .bool (mkB x y)]) ∧ w' = w := by
  have HUp := hid (up_g hF.pw hx hy)
  have hcf := hF.cells.2
  have HM : Hid (mkB x y = (u2 x y || lvB x y || otB x y) ∧ mkI x y = if u2 x y = true then u1 x y else if lvB x y = true then lvI x y else otI x y) := ⟨rfl, rfl⟩
  have HV : Hid (mkV x y = if mkB x y = true then mkI x y else 0) := rfl
  by_cases h1 : u2 x y = true
  · rw [h1] at HUp
    have HR : Hid (mkV x y = u1 x y ∧ mkB x y = true) := by
      have e : mkB x y = true := by rw [HM.out.1, h1]; rfl
      exact ⟨by rw [HV.out, if_pos e, HM.out.2, if_pos h1], e⟩
    clear HM HV hF h1
    generalize u1 x y = z at *
    go_enter Tryz.func54, Tryz.ntmps54
    go_wp2_with (go_at_call 65; refine HUp.out.mono ?_; rintro e w1 ⟨rfl, rfl⟩)
    go_ret2
    exact ⟨by rw [HR.out.1, HR.out.2]; rfl, rfl⟩
  · have h1' : u2 x y = false := by simpa using h1
    rw [h1'] at HUp
    have HJ : Hid (∀ W, Calls Tryz.prog 66 #[.int .i32 x, .int .i32 y] W fun e w' => e = .returned (.tuple #[.int .i32 (mkV x y), .bool (mkB x y)]) ∧ w' = W) := by
      refine hid (fun W => ?_)
      by_cases h2 : lvB x y = true
      · have e : mkB x y = true := by rw [HM.out.1, h1', h2]; rfl
        rw [HV.out, e, if_pos rfl, HM.out.2, if_neg h1, if_pos h2]
        exact join_lv x y W h2
      · by_cases h3 : otB x y = true
        · have e : mkB x y = true := by rw [HM.out.1, h1', h3]; simp
          rw [HV.out, e, if_pos rfl, HM.out.2, if_neg h1, if_neg h2]
          exact join_ot x y W h3
        · have h2' : lvB x y = false := by simpa using h2
          have h3' : otB x y = false := by simpa using h3
          have e : mkB x y = false := by rw [HM.out.1, h1', h2', h3']; rfl
          rw [HV.out, e, if_neg (by simp)]
          exact join_no x y W h2' h3'
    clear HM HV hF h1 h1'
    generalize u1 x y = z at *
    generalize mkV x y = m at *
    generalize mkB x y = q at *
    go_enter Tryz.func54, Tryz.ntmps54
    go_wp2_with (first | (go_at_call 65; refine HUp.out.mono ?_; rintro e w1 ⟨rfl, rfl⟩) | (go_at_call 66; refine (HJ.out _).mono ?_; rintro e w2 ⟨rfl, rfl⟩))
    go_ret2
    exact ⟨rfl, rfl⟩

set_option maxRecDepth 100000 in
set_option maxHeartbeats 4000000 in
theorem nfd_any {w : World} {f b p d u s : Nat} (hF : Fm w f b p d u s) {v : Value} {zs : List Int} (hS : Sl .i32 w v zs) (hz : ∀ z ∈ zs, I32 z) (hn : zs.length ≤ 10000) :
    Calls Tryz.prog 45 #[.pointer (some ⟨f, 0, none⟩), v] w fun e w' => ∃ v', e = .returned v' ∧ Sl .i32 w' v' (nfdP clsP zs) ∧ Below w.heap.size w w' := by
  obtain ⟨ao, cap, rfl, hS⟩ := hS
  have HF := hid hF
  have HS := hid hS
  have HZ := hid hz
  have HL : Hid (∃ len, zs.length = len ∧ len ≤ 10000) := ⟨_, rfl, hn⟩
  generalize hlen : zs.length = len at hn
  have HLn := hid hlen
  clear hS hF hz hlen HL
  go_enter Tryz.func45, Tryz.ntmps45
  go_wp2_with fail
  go_loopg [5, 10] len (fun g vo vi wr => ∃ k : Nat, vi = .int .i64 k ∧ k ≤ len ∧ g = len - k ∧ Hid (Ow w wr w.heap.size vo ((zs.take k).flatMap apP)))
  case atStart => exact ⟨0, rfl, Nat.zero_le _, rfl, World.ownsRow_nil _ _ _ _, Below.refl _ _, Nat.le_refl _, Nat.le_refl _⟩
  case round =>
    obtain ⟨k, rfl, hk, hg, H⟩ := hrel
    have HG := hid hg
    clear hg
    by_cases hlt : k < len
    · have hlx : k < zs.length := by rw [HLn.out]; exact hlt
      obtain ⟨bb, off, e0, hb, c1⟩ := HS.out.at_ k hlx
      subst e0
      have d1 := (H.out.2.1.cell (p := ⟨bb, off + k, none⟩) hb).trans c1
      have HE : Hid ((zs.take (k + 1)).flatMap apP = (zs.take k).flatMap apP ++ apF 5 zs[k]) := by
        show _ = _
        rw [List.take_succ_eq_append_getElem hlx, List.flatMap_append, List.flatMap_cons, List.flatMap_nil, List.append_nil, ap5]
      have hle : ((zs.take k).flatMap apP).length + 3 * 2 ^ 5 ≤ 1000000000 := by
        have := flat_len (zs.take k)
        rw [List.length_take] at this
        omega
      have HA := hid (apart_any HF.out 5 zs[k] (ok5 _) (HZ.out _ (List.getElem_mem hlx)) wr w.heap.size _ _ H.out hle)
      clear c1 hle
      generalize zs[k] = x at *
      have z1 : (k : Int) < (len : Int) := by omega
      go_wp2_with (go_at_call 55; refine HA.out.mono ?_; rintro e w2 ⟨v2, rfl, h3, h4⟩)
      have HO2 : Hid (Ow w w2 w.heap.size v2 ((zs.take (k + 1)).flatMap apP)) := by show Ow _ _ _ _ _; rw [HE.out]; exact h3
      clear h3 h4
      go_roundg (len - (k + 1))
      case measure => rw [HG.out]; omega
      case rel => exact ⟨k + 1, by go_num, by omega, rfl, HO2.out⟩
    · have e : k = len := by omega
      subst e
      have HW : Hid (Ow w wr w.heap.size u5 (zs.flatMap apP)) := by
        have := H.out
        rw [← HLn.out, List.take_length] at this
        exact this
      have HSt := hid (sort_any (HF.out.step HW.out.2.1).bk (own_sl HW.out.1) (Nat.le_trans (flat_len zs) (by rw [HLn.out]; omega)))
      have hcf := (HF.out.step HW.out.2.1).cells.1
      go_wp2_with (go_at_call 56; refine HSt.out.mono ?_; rintro e w2 ⟨v2, rfl, h3, h4⟩)
      go_ret
      exact ⟨_, rfl, h3, HW.out.2.1.trans (h4.mono HW.out.2.1.size)⟩
end Nf
end Go.Proofs.YtemdmalcoemhnabGreat

namespace Go.Proofs.YtemdmalcoemhnabGreat
namespace Nf
open Go.RowKit Od Pr Ha

theorem mk_I32 (a b : Int) (h : mkB a b = true) : I32 (mkI a b) := by
  unfold mkI
  split
  · exact u_bd a b
  · rename_i h1
    split
    · rename_i h2
      obtain ⟨hs, _⟩ := lv_parts a b h2
      have := syl_bd hs
      exact ⟨by omega, by omega⟩
    · rename_i h2
      unfold mkB at h
      have h3 : otB a b = true := by
        cases hu : u2 a b <;> cases hl : lvB a b <;> simp_all
      obtain ⟨_, _, hs, _⟩ := ot_parts a b h3
      have := syl_bd hs
      exact ⟨by omega, by omega⟩

/-- The last starter's place. -/
def stI (S : CS) : Int := match S.2.1 with
  | none => -1
  | some _ => (S.1.length : Int)
theorem step_zero {S : CS} {r : Int} (h : tryC clsP S r = false) (hc : clsP r = 0) : outC (stepC clsP S r) = outC S ++ [r] ∧ stI (stepC clsP S r) = ((outC S).length : Int) ∧ gr clsP (stepC clsP S r).2.2 = 0 := by
  refine ⟨outC_no clsP S r h, ?_, ?_⟩ <;> (unfold stepC; rw [h]; simp only [Bool.false_eq_true, if_false]; rw [if_pos hc]; rfl)
theorem step_mark {S : CS} {r : Int} (h : tryC clsP S r = false) (hc : clsP r ≠ 0) : outC (stepC clsP S r) = outC S ++ [r] ∧ stI (stepC clsP S r) = stI S ∧ gr clsP (stepC clsP S r).2.2 = if gr clsP S.2.2 < clsP r then clsP r else gr clsP S.2.2 := by
  refine ⟨outC_no clsP S r h, ?_, ?_⟩
  · unfold stepC; rw [h]; simp only [Bool.false_eq_true, if_false]; rw [if_neg hc]; rfl
  · unfold stepC; rw [h]; simp only [Bool.false_eq_true, if_false]; rw [if_neg hc]; exact gr_snoc clsP _ _
theorem step_join {A M : List Int} {x r : Int} (h : tryC clsP (A, some x, M) r = true) : stepC clsP (A, some x, M) r = (A, some (mkI x r), M) := by
  unfold stepC
  rw [if_pos h]
  rfl

/-- What Compose has made so far. -/
def CI (w wr : World) (v : Value) (L : List Int) (k : Nat) : Prop := Ow w wr w.heap.size v L ∧ (∀ y ∈ L, I32 y) ∧ L.length ≤ k
theorem CI.step {w w1 w2 : World} {v : Value} {L : List Int} {k : Nat} (h : CI w w1 v L k) (hb : Below w1.heap.size w1 w2) : CI w w2 v L k := ⟨h.1.step hb, h.2⟩
theorem CI.put {w w1 w2 : World} {v v2 : Value} {L : List Int} {k n : Nat} {r : Int} (h : CI w w1 v L k) (hn : L.length = n) (hr : I32 r) (h3 : w2.ownsRow w.heap.size 21 1 v2 (n + 1) (ivs .i32 L ++ [.int .i32 r])) (h4 : Below w.heap.size w1 w2) : CI w w2 v2 (L ++ [r]) (k + 1) := by
  subst hn
  refine ⟨h.1.put (ys := [r]) h3 h4, fun y hy => ?_, by rw [List.length_append]; have := h.2.2; simp; omega⟩
  rcases List.mem_append.1 hy with hy | hy
  · exact h.2.1 y hy
  · simp at hy; subst hy; exact hr
theorem CI.set {w w1 : World} {g n cp : Nat} {A M : List Int} {k : Nat} {x z : Int} (h : CI w w1 (.slice (some ⟨g, 0, none⟩) n cp) (A ++ [x] ++ M) k) (hn : (A ++ [x] ++ M).length = n) (hz : I32 z) : CI w (w1.setCell ⟨g, A.length, none⟩ (.int .i32 z)) (.slice (some ⟨g, 0, none⟩) n cp) (A ++ [z] ++ M) (k + 1) := by
  have h0 := h.1.1
  rw [hn] at h0
  obtain ⟨h1, h2⟩ := h0.stored A.length (.int .i32 z)
  have e : (ivs .i32 (A ++ [x] ++ M)).set A.length (.int .i32 z) = ivs .i32 (A ++ [z] ++ M) := by simp [ivs]
  have hn2 : (A ++ [z] ++ M).length = n := by rw [← hn]; simp
  rw [e] at h1
  have hb : Below w.heap.size w1 (w1.setCell ⟨g, A.length, none⟩ (.int .i32 z)) := Od.below_of_grown h2 _ h.1.2.2.2 (fun q e => by cases e; exact (h0.lt g rfl).1)
  refine ⟨⟨by rw [hn2]; exact h1, h.1.2.1.trans hb, Nat.le_refl _, Nat.le_trans h.1.2.2.2 hb.size⟩, fun y hy => ?_, ?_⟩
  · by_cases e : y = z
    · subst e; exact hz
    · refine h.2.1 y ?_
      simp at hy ⊢
      rcases hy with hy | hy | hy
      · exact .inl hy
      · exact (e hy).elim
      · exact .inr (.inr hy)
  · have := h.2.2
    simp at this ⊢
    omega
end Nf
end Go.Proofs.YtemdmalcoemhnabGreat

namespace Go.Proofs.YtemdmalcoemhnabGreat
namespace Nf
open Go.RowKit Od Pr Ha

theorem gr_nn (M : List Int) : 0 ≤ gr clsP M := (gr_ge clsP M 0).1
theorem comp_take {zs : List Int} {k : Nat} (h : k < zs.length) : (zs.take (k + 1)).foldl (stepC clsP) ([], none, []) = stepC clsP ((zs.take k).foldl (stepC clsP) ([], none, [])) zs[k] := by
  rw [List.take_succ_eq_append_getElem h, List.foldl_append]; rfl
theorem ow_some {w w1 : World} {B : Nat} {v : Value} {L : List Int} (h : Ow w w1 B v L) (hL : 0 < L.length) : ∃ g cp, v = .slice (some ⟨g, 0, none⟩) L.length cp := by
  rcases h.1.2 with ⟨_, h2⟩ | ⟨g, cap, cur, e, _⟩
  · omega
  · exact ⟨g, cap, e⟩
set_option maxRecDepth 100000 in
set_option maxHeartbeats 8000000 in
theorem compose_any {w : World} {f b p d u s : Nat} (hF : Fm w f b p d u s) {v : Value} {zs : List Int} (hS : Sl .i32 w v zs) (hz : ∀ z ∈ zs, I32 z) (hn : zs.length ≤ 1000000) :
    Calls Tryz.prog 44 #[.pointer (some ⟨f, 0, none⟩), v] w fun e w' => ∃ v', e = .returned v' ∧ Sl .i32 w' v' (compP clsP zs) ∧ Below w.heap.size w w' := by
  obtain ⟨ao, cap, rfl, hS⟩ := hS
  have HF := hid hF
  have HS := hid hS
  have HZ := hid hz
  generalize hlen : zs.length = len at hn
  have HLn := hid hlen
  clear hS hF hz hlen
  go_enter Tryz.func44, Tryz.ntmps44
  go_wp2_with fail
  go_loopg [5, 6, 7, 16] len (fun g vo vs vg vi wr => ∃ k : Nat, vi = .int .i64 k ∧ k ≤ len ∧ g = len - k ∧ vs = .int .i64 (stI ((zs.take k).foldl (stepC clsP) ([], none, []))) ∧ vg = .int .i64 (gr clsP ((zs.take k).foldl (stepC clsP) ([], none, [])).2.2) ∧ Hid (CI w wr vo (outC ((zs.take k).foldl (stepC clsP) ([], none, []))) k))
  case atStart => exact ⟨0, rfl, Nat.zero_le _, rfl, rfl, rfl, ⟨World.ownsRow_nil _ _ _ _, Below.refl _ _, Nat.le_refl _, Nat.le_refl _⟩, fun y hy => by simp [outC] at hy, Nat.le_refl _⟩
  case round =>
    obtain ⟨k, rfl, hk, hg, rfl, rfl, H⟩ := hrel
    have HG := hid hg
    clear hg
    by_cases hlt : k < len
    · have hlx : k < zs.length := by rw [HLn.out]; exact hlt
      obtain ⟨bb, off, e0, hb, c1⟩ := HS.out.at_ k hlx
      subst e0
      have d1 := (H.out.1.2.1.cell (p := ⟨bb, off + k, none⟩) hb).trans c1
      have HE := hid (comp_take hlx)
      have hr : Hid (I32 zs[k]) := HZ.out _ (List.getElem_mem hlx)
      have hcf := (HF.out.step H.out.1.2.1).cells.1
      have HCl := hid (cls_any (HF.out.step H.out.1.2.1).bk zs[k])
      have hcr := (cls_bd zs[k]).1
      have z1 : (k : Int) < (len : Int) := by omega
      clear c1
      generalize zs[k] = r at *
      generalize hSS : (zs.take k).foldl (stepC clsP) ([], none, []) = S at *
      clear hSS
      obtain ⟨A, o, M⟩ := S
      have hg0 := gr_nn M
      have HGr : Hid (gr clsP M = gr clsP M) := rfl
      cases o with
      | none =>
        have HT : Hid (tryC clsP (A, none, M) r = false) := rfl
        have HLL : Hid (outC (A, none, M) = outC (A, none, M)) := rfl
        simp only [stI]
        obtain ⟨ao2, cp, hvo⟩ := Od.own_slice H.out.1.1
        subst hvo
        have hnk := H.out.2.2
        generalize hnn : (outC (A, none, M)).length = n at *
        have HNn := hid hnn
        clear hnn
        by_cases h0 : 0 < gr clsP M
        · by_cases h1 : clsP r ≤ gr clsP M
          · have hdd := True.intro
            by_cases hc : clsP r = 0
            · have HC0 := hid hc
              have HSt := hid (step_zero HT.out HC0.out)
              have HS2 : Hid (stI (stepC clsP (A, none, M) r) = (n : Int) ∧ gr clsP (stepC clsP (A, none, M) r).2.2 = 0) := ⟨by rw [HSt.out.2.1, HNn.out], HSt.out.2.2⟩
              have HS3 : Hid (outC (stepC clsP (A, none, M) r) = outC (A, none, M) ++ [r]) := HSt.out.1
              clear HSt
              generalize gr clsP M = gm at *
              generalize clsP r = cr at *
              subst hc
              go_wp2_with (first | (go_at_call 53; refine HCl.out.mono ?_; rintro e w1 ⟨rfl, hb1⟩; have HI := hid (H.out.step hb1); clear hb1) | (at_builtin; refine app_i32 rfl (.tmp 61) (.tmp 63) rfl w1 w.heap.size n _ (ivs .i32 (outC (A, none, M))) r rfl w1.heap.size rfl rfl (by have := HI.out.1.1; rw [HNn.out] at this; exact this) (by omega) HI.out.1.2.2.2 (fun v2 w2 h3 h4 => ?_); have HP := hid (HI.out.put HNn.out hr.out h3 h4); clear h3 h4))
              have HP2 : Hid (CI w w2 v2 (outC (stepC clsP (A, none, M) r)) (k + 1)) := by show CI _ _ _ _ _; rw [HS3.out]; exact HP.out
              clear HP
              go_roundg (len - (k + 1))
              case measure => rw [HG.out]; omega
              case rel => exact ⟨k + 1, by go_num, by omega, rfl, by rw [HE.out, HS2.out.1], by rw [HE.out, HS2.out.2] <;> (refine int_eq ?_; omega), by rw [HE.out]; exact HP2.out⟩
            · have HC0 := hid hc
              have hc2 : (clsP r == 0) = false := by simpa using hc
              have hm : ¬ clsP r > gr clsP M := by omega
              have hm' : ¬ gr clsP M < clsP r := by omega
              have HSt := hid (step_mark HT.out HC0.out)
              have HS2 : Hid (stI (stepC clsP (A, none, M) r) = -1 ∧ gr clsP (stepC clsP (A, none, M) r).2.2 = gr clsP M) := ⟨HSt.out.2.1, by rw [HSt.out.2.2]; exact if_neg hm'⟩
              have HS3 : Hid (outC (stepC clsP (A, none, M) r) = outC (A, none, M) ++ [r]) := HSt.out.1
              clear HSt
              generalize gr clsP M = gm at *
              generalize clsP r = cr at *
              go_wp2_with (first | (go_at_call 53; refine HCl.out.mono ?_; rintro e w1 ⟨rfl, hb1⟩; have HI := hid (H.out.step hb1); clear hb1) | (at_builtin; refine app_i32 rfl (.tmp 61) (.tmp 63) rfl w1 w.heap.size n _ (ivs .i32 (outC (A, none, M))) r rfl w1.heap.size rfl rfl (by have := HI.out.1.1; rw [HNn.out] at this; exact this) (by omega) HI.out.1.2.2.2 (fun v2 w2 h3 h4 => ?_); have HP := hid (HI.out.put HNn.out hr.out h3 h4); clear h3 h4))
              have HP2 : Hid (CI w w2 v2 (outC (stepC clsP (A, none, M) r)) (k + 1)) := by show CI _ _ _ _ _; rw [HS3.out]; exact HP.out
              clear HP
              go_roundg (len - (k + 1))
              case measure => rw [HG.out]; omega
              case rel => exact ⟨k + 1, by go_num, by omega, rfl, by rw [HE.out, HS2.out.1], by rw [HE.out, HS2.out.2] <;> (refine int_eq ?_; omega), by rw [HE.out]; exact HP2.out⟩
          · have h1' : decide (clsP r ≤ gr clsP M) = false := decide_eq_false h1
            have hc : ¬ clsP r = 0 := by omega
            have HC0 := hid hc
            have hc2 : (clsP r == 0) = false := by simpa using hc
            have hm' : gr clsP M < clsP r := by omega
            have HSt := hid (step_mark HT.out HC0.out)
            have HS2 : Hid (stI (stepC clsP (A, none, M) r) = -1 ∧ gr clsP (stepC clsP (A, none, M) r).2.2 = clsP r) := ⟨HSt.out.2.1, by rw [HSt.out.2.2]; exact if_pos hm'⟩
            have HS3 : Hid (outC (stepC clsP (A, none, M) r) = outC (A, none, M) ++ [r]) := HSt.out.1
            clear HSt
            generalize gr clsP M = gm at *
            generalize clsP r = cr at *
            go_wp2_with (first | (go_at_call 53; refine HCl.out.mono ?_; rintro e w1 ⟨rfl, hb1⟩; have HI := hid (H.out.step hb1); clear hb1) | (at_builtin; refine app_i32 rfl (.tmp 61) (.tmp 63) rfl w1 w.heap.size n _ (ivs .i32 (outC (A, none, M))) r rfl w1.heap.size rfl rfl (by have := HI.out.1.1; rw [HNn.out] at this; exact this) (by omega) HI.out.1.2.2.2 (fun v2 w2 h3 h4 => ?_); have HP := hid (HI.out.put HNn.out hr.out h3 h4); clear h3 h4))
            have HP2 : Hid (CI w w2 v2 (outC (stepC clsP (A, none, M) r)) (k + 1)) := by show CI _ _ _ _ _; rw [HS3.out]; exact HP.out
            clear HP
            go_roundg (len - (k + 1))
            case measure => rw [HG.out]; omega
            case rel => exact ⟨k + 1, by go_num, by omega, rfl, by rw [HE.out, HS2.out.1], by rw [HE.out, HS2.out.2] <;> (refine int_eq ?_; omega), by rw [HE.out]; exact HP2.out⟩
        · have e0 : gr clsP M = 0 := by omega
          by_cases hc : clsP r = 0
          · have HC0 := hid hc
            have HSt := hid (step_zero HT.out HC0.out)
            have HS2 : Hid (stI (stepC clsP (A, none, M) r) = (n : Int) ∧ gr clsP (stepC clsP (A, none, M) r).2.2 = 0) := ⟨by rw [HSt.out.2.1, HNn.out], HSt.out.2.2⟩
            have HS3 : Hid (outC (stepC clsP (A, none, M) r) = outC (A, none, M) ++ [r]) := HSt.out.1
            clear HSt
            generalize gr clsP M = gm at *
            generalize clsP r = cr at *
            subst hc
            go_wp2_with (first | (go_at_call 53; refine HCl.out.mono ?_; rintro e w1 ⟨rfl, hb1⟩; have HI := hid (H.out.step hb1); clear hb1) | (at_builtin; refine app_i32 rfl (.tmp 61) (.tmp 63) rfl w1 w.heap.size n _ (ivs .i32 (outC (A, none, M))) r rfl w1.heap.size rfl rfl (by have := HI.out.1.1; rw [HNn.out] at this; exact this) (by omega) HI.out.1.2.2.2 (fun v2 w2 h3 h4 => ?_); have HP := hid (HI.out.put HNn.out hr.out h3 h4); clear h3 h4))
            have HP2 : Hid (CI w w2 v2 (outC (stepC clsP (A, none, M) r)) (k + 1)) := by show CI _ _ _ _ _; rw [HS3.out]; exact HP.out
            clear HP
            go_roundg (len - (k + 1))
            case measure => rw [HG.out]; omega
            case rel => exact ⟨k + 1, by go_num, by omega, rfl, by rw [HE.out, HS2.out.1], by rw [HE.out, HS2.out.2] <;> (refine int_eq ?_; omega), by rw [HE.out]; exact HP2.out⟩
          · have HC0 := hid hc
            have hc2 : (clsP r == 0) = false := by simpa using hc
            have hm' : gr clsP M < clsP r := by omega
            have HSt := hid (step_mark HT.out HC0.out)
            have HS2 : Hid (stI (stepC clsP (A, none, M) r) = -1 ∧ gr clsP (stepC clsP (A, none, M) r).2.2 = clsP r) := ⟨HSt.out.2.1, by rw [HSt.out.2.2]; exact if_pos hm'⟩
            have HS3 : Hid (outC (stepC clsP (A, none, M) r) = outC (A, none, M) ++ [r]) := HSt.out.1
            clear HSt
            generalize gr clsP M = gm at *
            generalize clsP r = cr at *
            go_wp2_with (first | (go_at_call 53; refine HCl.out.mono ?_; rintro e w1 ⟨rfl, hb1⟩; have HI := hid (H.out.step hb1); clear hb1) | (at_builtin; refine app_i32 rfl (.tmp 61) (.tmp 63) rfl w1 w.heap.size n _ (ivs .i32 (outC (A, none, M))) r rfl w1.heap.size rfl rfl (by have := HI.out.1.1; rw [HNn.out] at this; exact this) (by omega) HI.out.1.2.2.2 (fun v2 w2 h3 h4 => ?_); have HP := hid (HI.out.put HNn.out hr.out h3 h4); clear h3 h4))
            have HP2 : Hid (CI w w2 v2 (outC (stepC clsP (A, none, M) r)) (k + 1)) := by show CI _ _ _ _ _; rw [HS3.out]; exact HP.out
            clear HP
            go_roundg (len - (k + 1))
            case measure => rw [HG.out]; omega
            case rel => exact ⟨k + 1, by go_num, by omega, rfl, by rw [HE.out, HS2.out.1], by rw [HE.out, HS2.out.2] <;> (refine int_eq ?_; omega), by rw [HE.out]; exact HP2.out⟩
      | some x =>
        have hx : Hid (I32 x) := H.out.2.1 x (by simp [outC])
        simp only [stI]
        obtain ⟨g0, cp, hvo⟩ := ow_some H.out.1 (by simp [outC] <;> omega)
        subst hvo
        have hnk := H.out.2.2
        have han : A.length < (outC (A, some x, M)).length := by simp [outC] <;> omega
        have HC : Hid (∀ w1, Ow w w1 w.heap.size (.slice (some ⟨g0, 0, none⟩) (outC (A, some x, M)).length cp) (outC (A, some x, M)) → w1.cell? ⟨g0, A.length, none⟩ = some (.int .i32 x)) := by
          refine hid (fun w1 h => ?_)
          have := h.1.cellAt A.length (by simp [outC] <;> omega)
          rw [this]
          simp [outC, ivs]
        have HFz : Hid (∀ w1, Ow w w1 w.heap.size (.slice (some ⟨g0, 0, none⟩) (outC (A, some x, M)).length cp) (outC (A, some x, M)) → w1.frozen? ⟨g0, A.length, none⟩ = false) := hid (fun w1 h => h.1.frozenAt A.length)
        generalize hnn : (outC (A, some x, M)).length = n at *
        have HNn := hid hnn
        clear hnn
        have za : (A.length : Int) < (n : Int) := by omega
        have HTr : Hid (tryC clsP (A, some x, M) r = (!(decide (0 < gr clsP M) && decide (clsP r ≤ gr clsP M)) && mkB x r)) := rfl
        have HTg := hid (fun (w1 : World) (h : Fm w1 f b p d u s) => together_any h hx.out hr.out)
        have HAl : Hid (∃ al, A.length = al) := ⟨_, rfl⟩
        generalize hmk : mkB x r = q at *
        have HMk := hid hmk
        clear hmk
        by_cases h0 : 0 < gr clsP M
        · by_cases h1 : clsP r ≤ gr clsP M
          · have HT : Hid (tryC clsP (A, some x, M) r = false) := by show _ = _; rw [HTr.out]; simp [h0, h1]
            by_cases hc : clsP r = 0
            · have HC0 := hid hc
              have HSt := hid (step_zero HT.out HC0.out)
              have HS2 : Hid (stI (stepC clsP (A, some x, M) r) = (n : Int) ∧ gr clsP (stepC clsP (A, some x, M) r).2.2 = 0) := ⟨by rw [HSt.out.2.1, HNn.out], HSt.out.2.2⟩
              have HS3 : Hid (outC (stepC clsP (A, some x, M) r) = outC (A, some x, M) ++ [r]) := HSt.out.1
              clear HSt
              generalize gr clsP M = gm at *
              generalize clsP r = cr at *
              subst hc
              go_wp2_with (first | (go_at_call 53; refine HCl.out.mono ?_; rintro e w1 ⟨rfl, hb1⟩; have HI := hid (H.out.step hb1); clear hb1; have c2 := HC.out w1 HI.out.1; have f2 := HFz.out w1 HI.out.1) | (go_at_call 54; refine (HTg.out w1 (HF.out.step HI.out.1.2.1)).mono ?_; rintro e w9 ⟨rfl, hw9⟩; rw [hw9]; clear hw9 w9) | (at_builtin; refine app_i32 rfl (.tmp 61) (.tmp 63) rfl w1 w.heap.size n _ (ivs .i32 (outC (A, some x, M))) r rfl w1.heap.size rfl rfl (by have := HI.out.1.1; rw [HNn.out] at this; exact this) (by omega) HI.out.1.2.2.2 (fun v2 w2 h3 h4 => ?_); have HP := hid (HI.out.put HNn.out hr.out h3 h4); clear h3 h4))
              have HP2 : Hid (CI w w2 v2 (outC (stepC clsP (A, some x, M) r)) (k + 1)) := by show CI _ _ _ _ _; rw [HS3.out]; exact HP.out
              clear HP
              go_roundg (len - (k + 1))
              case measure => rw [HG.out]; omega
              case rel => exact ⟨k + 1, by go_num, by omega, rfl, by rw [HE.out, HS2.out.1], by rw [HE.out, HS2.out.2] <;> (refine int_eq ?_; omega), by rw [HE.out]; exact HP2.out⟩
            · have HC0 := hid hc
              have hc2 : (clsP r == 0) = false := by simpa using hc
              have hm : ¬ clsP r > gr clsP M := by omega
              have hm' : ¬ gr clsP M < clsP r := by omega
              have HSt := hid (step_mark HT.out HC0.out)
              have HS2 : Hid (stI (stepC clsP (A, some x, M) r) = (A.length : Int) ∧ gr clsP (stepC clsP (A, some x, M) r).2.2 = gr clsP M) := ⟨HSt.out.2.1, by rw [HSt.out.2.2]; exact if_neg hm'⟩
              have HS3 : Hid (outC (stepC clsP (A, some x, M) r) = outC (A, some x, M) ++ [r]) := HSt.out.1
              clear HSt
              generalize gr clsP M = gm at *
              generalize clsP r = cr at *
              go_wp2_with (first | (go_at_call 53; refine HCl.out.mono ?_; rintro e w1 ⟨rfl, hb1⟩; have HI := hid (H.out.step hb1); clear hb1; have c2 := HC.out w1 HI.out.1; have f2 := HFz.out w1 HI.out.1) | (go_at_call 54; refine (HTg.out w1 (HF.out.step HI.out.1.2.1)).mono ?_; rintro e w9 ⟨rfl, hw9⟩; rw [hw9]; clear hw9 w9) | (at_builtin; refine app_i32 rfl (.tmp 61) (.tmp 63) rfl w1 w.heap.size n _ (ivs .i32 (outC (A, some x, M))) r rfl w1.heap.size rfl rfl (by have := HI.out.1.1; rw [HNn.out] at this; exact this) (by omega) HI.out.1.2.2.2 (fun v2 w2 h3 h4 => ?_); have HP := hid (HI.out.put HNn.out hr.out h3 h4); clear h3 h4))
              have HP2 : Hid (CI w w2 v2 (outC (stepC clsP (A, some x, M) r)) (k + 1)) := by show CI _ _ _ _ _; rw [HS3.out]; exact HP.out
              clear HP
              go_roundg (len - (k + 1))
              case measure => rw [HG.out]; omega
              case rel => exact ⟨k + 1, by go_num, by omega, rfl, by rw [HE.out, HS2.out.1], by rw [HE.out, HS2.out.2] <;> (refine int_eq ?_; omega), by rw [HE.out]; exact HP2.out⟩
          · have h1' : decide (clsP r ≤ gr clsP M) = false := decide_eq_false h1
            have hc : ¬ clsP r = 0 := by omega
            have HC0 := hid hc
            have hc2 : (clsP r == 0) = false := by simpa using hc
            have hm' : gr clsP M < clsP r := by omega
            cases q with
            | true =>
              have HT1 : Hid (tryC clsP (A, some x, M) r = true) := by show _ = _; rw [HTr.out]; simp [h1]
              generalize hgm : gr clsP M = gm at *
              have HGm := hid hgm
              clear hgm
              have HSt : Hid (stepC clsP (A, some x, M) r = (A, some (mkI x r), M)) := step_join HT1.out
              have HMv : Hid (mkV x r = mkI x r ∧ I32 (mkI x r)) := ⟨by rw [mkV, if_pos HMk.out], mk_I32 x r HMk.out⟩
              rw [HMv.out.1] at HTg
              generalize mkI x r = z at *
              go_wp2_with (first | (go_at_call 53; refine HCl.out.mono ?_; rintro e w1 ⟨rfl, hb1⟩; have HI := hid (H.out.step hb1); clear hb1; have c2 := HC.out w1 HI.out.1; have f2 := HFz.out w1 HI.out.1) | (go_at_call 54; refine (HTg.out w1 (HF.out.step HI.out.1.2.1)).mono ?_; rintro e w9 ⟨rfl, hw9⟩; rw [hw9]; clear hw9 w9))
              have HP : Hid (CI w (w1.setCell ⟨g0, A.length, none⟩ (.int .i32 z)) (.slice (some ⟨g0, 0, none⟩) n cp) (outC (A, some z, M)) (k + 1)) := HI.out.set HNn.out HMv.out.2
              go_roundg (len - (k + 1))
              case measure => rw [HG.out]; omega
              case rel => exact ⟨k + 1, by go_num, by omega, rfl, by rw [HE.out, HSt.out]; rfl, by rw [HE.out, HSt.out]; exact int_eq (by show _ = gr clsP M; have := HGm.out; omega), by rw [HE.out, HSt.out]; exact HP.out⟩
            | false =>
              have HT : Hid (tryC clsP (A, some x, M) r = false) := by show _ = _; rw [HTr.out]; simp
              have HSt := hid (step_mark HT.out HC0.out)
              have HS2 : Hid (stI (stepC clsP (A, some x, M) r) = (A.length : Int) ∧ gr clsP (stepC clsP (A, some x, M) r).2.2 = clsP r) := ⟨HSt.out.2.1, by rw [HSt.out.2.2]; exact if_pos hm'⟩
              have HS3 : Hid (outC (stepC clsP (A, some x, M) r) = outC (A, some x, M) ++ [r]) := HSt.out.1
              clear HSt
              generalize gr clsP M = gm at *
              generalize clsP r = cr at *
              go_wp2_with (first | (go_at_call 53; refine HCl.out.mono ?_; rintro e w1 ⟨rfl, hb1⟩; have HI := hid (H.out.step hb1); clear hb1; have c2 := HC.out w1 HI.out.1; have f2 := HFz.out w1 HI.out.1) | (go_at_call 54; refine (HTg.out w1 (HF.out.step HI.out.1.2.1)).mono ?_; rintro e w9 ⟨rfl, hw9⟩; rw [hw9]; clear hw9 w9) | (at_builtin; refine app_i32 rfl (.tmp 61) (.tmp 63) rfl w1 w.heap.size n _ (ivs .i32 (outC (A, some x, M))) r rfl w1.heap.size rfl rfl (by have := HI.out.1.1; rw [HNn.out] at this; exact this) (by omega) HI.out.1.2.2.2 (fun v2 w2 h3 h4 => ?_); have HP := hid (HI.out.put HNn.out hr.out h3 h4); clear h3 h4))
              have HP2 : Hid (CI w w2 v2 (outC (stepC clsP (A, some x, M) r)) (k + 1)) := by show CI _ _ _ _ _; rw [HS3.out]; exact HP.out
              clear HP
              go_roundg (len - (k + 1))
              case measure => rw [HG.out]; omega
              case rel => exact ⟨k + 1, by go_num, by omega, rfl, by rw [HE.out, HS2.out.1], by rw [HE.out, HS2.out.2] <;> (refine int_eq ?_; omega), by rw [HE.out]; exact HP2.out⟩
        · have e0 : gr clsP M = 0 := by omega
          cases q with
          | true =>
            have HT1 : Hid (tryC clsP (A, some x, M) r = true) := by show _ = _; rw [HTr.out]; simp [h0]
            generalize hgm : gr clsP M = gm at *
            have HGm := hid hgm
            clear hgm
            have HSt : Hid (stepC clsP (A, some x, M) r = (A, some (mkI x r), M)) := step_join HT1.out
            have HMv : Hid (mkV x r = mkI x r ∧ I32 (mkI x r)) := ⟨by rw [mkV, if_pos HMk.out], mk_I32 x r HMk.out⟩
            rw [HMv.out.1] at HTg
            generalize mkI x r = z at *
            go_wp2_with (first | (go_at_call 53; refine HCl.out.mono ?_; rintro e w1 ⟨rfl, hb1⟩; have HI := hid (H.out.step hb1); clear hb1; have c2 := HC.out w1 HI.out.1; have f2 := HFz.out w1 HI.out.1) | (go_at_call 54; refine (HTg.out w1 (HF.out.step HI.out.1.2.1)).mono ?_; rintro e w9 ⟨rfl, hw9⟩; rw [hw9]; clear hw9 w9))
            have HP : Hid (CI w (w1.setCell ⟨g0, A.length, none⟩ (.int .i32 z)) (.slice (some ⟨g0, 0, none⟩) n cp) (outC (A, some z, M)) (k + 1)) := HI.out.set HNn.out HMv.out.2
            go_roundg (len - (k + 1))
            case measure => rw [HG.out]; omega
            case rel => exact ⟨k + 1, by go_num, by omega, rfl, by rw [HE.out, HSt.out]; rfl, by rw [HE.out, HSt.out]; exact int_eq (by show _ = gr clsP M; have := HGm.out; omega), by rw [HE.out, HSt.out]; exact HP.out⟩
          | false =>
            have HT : Hid (tryC clsP (A, some x, M) r = false) := by show _ = _; rw [HTr.out]; simp
            by_cases hc : clsP r = 0
            · have HC0 := hid hc
              have HSt := hid (step_zero HT.out HC0.out)
              have HS2 : Hid (stI (stepC clsP (A, some x, M) r) = (n : Int) ∧ gr clsP (stepC clsP (A, some x, M) r).2.2 = 0) := ⟨by rw [HSt.out.2.1, HNn.out], HSt.out.2.2⟩
              have HS3 : Hid (outC (stepC clsP (A, some x, M) r) = outC (A, some x, M) ++ [r]) := HSt.out.1
              clear HSt
              generalize gr clsP M = gm at *
              generalize clsP r = cr at *
              subst hc
              go_wp2_with (first | (go_at_call 53; refine HCl.out.mono ?_; rintro e w1 ⟨rfl, hb1⟩; have HI := hid (H.out.step hb1); clear hb1; have c2 := HC.out w1 HI.out.1; have f2 := HFz.out w1 HI.out.1) | (go_at_call 54; refine (HTg.out w1 (HF.out.step HI.out.1.2.1)).mono ?_; rintro e w9 ⟨rfl, hw9⟩; rw [hw9]; clear hw9 w9) | (at_builtin; refine app_i32 rfl (.tmp 61) (.tmp 63) rfl w1 w.heap.size n _ (ivs .i32 (outC (A, some x, M))) r rfl w1.heap.size rfl rfl (by have := HI.out.1.1; rw [HNn.out] at this; exact this) (by omega) HI.out.1.2.2.2 (fun v2 w2 h3 h4 => ?_); have HP := hid (HI.out.put HNn.out hr.out h3 h4); clear h3 h4))
              have HP2 : Hid (CI w w2 v2 (outC (stepC clsP (A, some x, M) r)) (k + 1)) := by show CI _ _ _ _ _; rw [HS3.out]; exact HP.out
              clear HP
              go_roundg (len - (k + 1))
              case measure => rw [HG.out]; omega
              case rel => exact ⟨k + 1, by go_num, by omega, rfl, by rw [HE.out, HS2.out.1], by rw [HE.out, HS2.out.2] <;> (refine int_eq ?_; omega), by rw [HE.out]; exact HP2.out⟩
            · have HC0 := hid hc
              have hc2 : (clsP r == 0) = false := by simpa using hc
              have hm' : gr clsP M < clsP r := by omega
              have HSt := hid (step_mark HT.out HC0.out)
              have HS2 : Hid (stI (stepC clsP (A, some x, M) r) = (A.length : Int) ∧ gr clsP (stepC clsP (A, some x, M) r).2.2 = clsP r) := ⟨HSt.out.2.1, by rw [HSt.out.2.2]; exact if_pos hm'⟩
              have HS3 : Hid (outC (stepC clsP (A, some x, M) r) = outC (A, some x, M) ++ [r]) := HSt.out.1
              clear HSt
              generalize gr clsP M = gm at *
              generalize clsP r = cr at *
              go_wp2_with (first | (go_at_call 53; refine HCl.out.mono ?_; rintro e w1 ⟨rfl, hb1⟩; have HI := hid (H.out.step hb1); clear hb1; have c2 := HC.out w1 HI.out.1; have f2 := HFz.out w1 HI.out.1) | (go_at_call 54; refine (HTg.out w1 (HF.out.step HI.out.1.2.1)).mono ?_; rintro e w9 ⟨rfl, hw9⟩; rw [hw9]; clear hw9 w9) | (at_builtin; refine app_i32 rfl (.tmp 61) (.tmp 63) rfl w1 w.heap.size n _ (ivs .i32 (outC (A, some x, M))) r rfl w1.heap.size rfl rfl (by have := HI.out.1.1; rw [HNn.out] at this; exact this) (by omega) HI.out.1.2.2.2 (fun v2 w2 h3 h4 => ?_); have HP := hid (HI.out.put HNn.out hr.out h3 h4); clear h3 h4))
              have HP2 : Hid (CI w w2 v2 (outC (stepC clsP (A, some x, M) r)) (k + 1)) := by show CI _ _ _ _ _; rw [HS3.out]; exact HP.out
              clear HP
              go_roundg (len - (k + 1))
              case measure => rw [HG.out]; omega
              case rel => exact ⟨k + 1, by go_num, by omega, rfl, by rw [HE.out, HS2.out.1], by rw [HE.out, HS2.out.2] <;> (refine int_eq ?_; omega), by rw [HE.out]; exact HP2.out⟩
    · have e : k = len := by omega
      subst e
      have HW : Hid (Ow w wr w.heap.size u5 (compP clsP zs)) := by
        have := H.out.1
        rw [← HLn.out, List.take_length] at this
        exact this
      go_wp2_with fail
      go_ret
      exact ⟨_, rfl, own_sl HW.out.1, HW.out.2.1⟩
end Nf
end Go.Proofs.YtemdmalcoemhnabGreat

namespace Go.Proofs.YtemdmalcoemhnabGreat
namespace Nf
open Go.RowKit Od Pr Ha

theorem ins_mem (c : Int → Int) (x : Int) : ∀ (l : List Int), (∀ y, y ∈ ins c x l → y = x ∨ y ∈ l) ∧ (ins c x l).length = l.length + 1
  | [] => ⟨fun y h => by simp [ins] at h; exact .inl h, by simp [ins]⟩
  | z :: l => by
    obtain ⟨h1, h2⟩ := ins_mem c x l
    unfold ins
    split
    · refine ⟨fun y h => ?_, by simp [h2]⟩
      rcases List.mem_cons.1 h with h | h
      · exact .inr (by simp [h])
      · rcases h1 y h with h | h
        · exact .inl h
        · exact .inr (by simp [h])
    · exact ⟨fun y h => List.mem_cons.1 h, by simp⟩
theorem srt_len (c : Int → Int) : ∀ l : List Int, (srt c l).length = l.length
  | [] => rfl
  | x :: l => by
    simp only [srt]
    rw [(ins_mem c x _).2, srt_len c l, List.length_cons]
theorem srt_mem (c : Int → Int) : ∀ (l : List Int) (y : Int), y ∈ srt c l → y ∈ l
  | [], y, h => by simp [srt] at h
  | x :: l, y, h => by
    simp only [srt] at h
    rcases (ins_mem c x _).1 y h with h | h
    · simp [h]
    · simp [srt_mem c l y h]
theorem nfd_I32 (c : Int → Int) (zs : List Int) (hz : ∀ z ∈ zs, I32 z) : ∀ y ∈ nfdP c zs, I32 y := by
  intro y hy
  have := srt_mem c _ y hy
  obtain ⟨x, hx, h⟩ := List.mem_flatMap.1 this
  rw [← ap5] at h
  exact apF_I32 5 x (hz x hx) y h
theorem step_I32 (S : CS) (r : Int) (hr : I32 r) (h : ∀ y ∈ outC S, I32 y) : (∀ y ∈ outC (stepC clsP S r), I32 y) ∧ (outC (stepC clsP S r)).length ≤ (outC S).length + 1 := by
  by_cases ht : tryC clsP S r = true
  · obtain ⟨A, o, M⟩ := S
    cases o with
    | none => cases ht
    | some x =>
      rw [step_join ht]
      have hm : mkB x r = true := by
        have := ht
        simp only [tryC, Bool.and_eq_true] at this
        exact this.2
      have hI := mk_I32 x r hm
      refine ⟨fun y hy => ?_, by simp [outC]⟩
      by_cases e : y = mkI x r
      · rw [e]; exact hI
      · refine h y ?_
        simp [outC] at hy ⊢
        rcases hy with hy | hy | hy
        · exact .inl hy
        · exact (e hy).elim
        · exact .inr (.inr hy)
  · rw [outC_no clsP S r (by simpa using ht)]
    refine ⟨fun y hy => ?_, by simp⟩
    rcases List.mem_append.1 hy with hy | hy
    · exact h y hy
    · simp at hy; subst hy; exact hr
theorem fold_I32 : ∀ (l : List Int) (S : CS), (∀ z ∈ l, I32 z) → (∀ y ∈ outC S, I32 y) → (∀ y ∈ outC (l.foldl (stepC clsP) S), I32 y) ∧ (outC (l.foldl (stepC clsP) S)).length ≤ (outC S).length + l.length
  | [], S, _, h => ⟨h, by simp⟩
  | r :: l, S, hz, h => by
    obtain ⟨h1, h2⟩ := step_I32 S r (hz r (by simp)) h
    obtain ⟨h3, h4⟩ := fold_I32 l (stepC clsP S r) (fun z hz' => hz z (by simp [hz'])) h1
    refine ⟨h3, ?_⟩
    rw [List.foldl_cons, List.length_cons]
    omega
theorem comp_I32 (zs : List Int) (hz : ∀ z ∈ zs, I32 z) : (∀ y ∈ compP clsP zs, I32 y) ∧ (compP clsP zs).length ≤ zs.length := by
  obtain ⟨h1, h2⟩ := fold_I32 zs ([], none, []) hz (fun y hy => by simp [outC] at hy)
  refine ⟨h1, ?_⟩
  have e : (outC (([], none, []) : CS)).length = 0 := rfl
  rw [e, Nat.zero_add] at h2
  exact h2
theorem nfd_len (zs : List Int) : (nfdP clsP zs).length ≤ 96 * zs.length := by
  have := flat_len zs
  unfold nfdP
  rw [srt_len]
  exact this
theorem nfc_I32 (zs : List Int) (hz : ∀ z ∈ zs, I32 z) : (∀ y ∈ nfcP clsP zs, I32 y) ∧ (nfcP clsP zs).length ≤ 96 * zs.length := by
  obtain ⟨h1, h2⟩ := comp_I32 _ (nfd_I32 clsP zs hz)
  exact ⟨h1, Nat.le_trans h2 (nfd_len zs)⟩

set_option maxRecDepth 100000 in
set_option maxHeartbeats 2000000 in
theorem nfc_any {w : World} {f b p d u s : Nat} (hF : Fm w f b p d u s) {v : Value} {zs : List Int} (hS : Sl .i32 w v zs) (hz : ∀ z ∈ zs, I32 z) (hn : zs.length ≤ 10000) :
    Calls Tryz.prog 23 #[.pointer (some ⟨f, 0, none⟩), v] w fun e w' => ∃ v', e = .returned v' ∧ Sl .i32 w' v' (nfcP clsP zs) ∧ Below w.heap.size w w' := by
  have HN := hid (nfd_any hF hS hz hn)
  have HC := hid (fun (w1 : World) (v1 : Value) (h : Below w.heap.size w w1) (h1 : Sl .i32 w1 v1 (nfdP clsP zs)) => compose_any (hF.step h) h1 (nfd_I32 clsP zs hz) (Nat.le_trans (nfd_len zs) (by omega)))
  clear hF hS hz hn
  go_enter Tryz.func23, Tryz.ntmps23
  go_wp2_with (first | (go_at_call 45; refine HN.out.mono ?_; rintro e w1 ⟨v1, rfl, h1, h2⟩; have H1 := hid (And.intro h1 h2); clear h1 h2) | (go_at_call 44; refine (HC.out w1 v1 H1.out.2 H1.out.1).mono ?_; rintro e w2 ⟨v2, rfl, h1, h2⟩; have H2 := hid (And.intro h1 h2); clear h1 h2))
  go_ret
  exact ⟨_, rfl, H2.out.1, H1.out.2.trans (H2.out.2.mono H1.out.2.size)⟩

set_option maxRecDepth 100000 in
set_option maxHeartbeats 2000000 in
theorem new_any' {w : World} {b p d u s : Nat} (hb : Bk w b) (hp : PW w p d u s allP 395) :
    Calls Tryz.prog 13 #[.pointer (some ⟨b, 0, none⟩), .pointer (some ⟨p, 0, none⟩)] w fun e w' => ∃ f, e = .returned (.pointer (some ⟨f, 0, none⟩)) ∧ Fm w' f b p d u s ∧ Below w.heap.size w w' := by
  have HB := hid hb
  have HP := hid hp
  have hB : Hid (Below w.heap.size w (w.alloc (.cells #[.pointer (some ⟨b, 0, none⟩), .pointer (some ⟨p, 0, none⟩)] 71))) := (Below.refl w.heap.size w).alloc (Nat.le_refl _) _
  clear hb hp
  go_enter Tryz.func13, Tryz.ntmps13
  go_wp2_with fail
  go_ret
  exact ⟨_, rfl, ⟨heap_alloc_new w _, HB.out.step hB.out, HP.out.step hB.out⟩, hB.out⟩

end Nf
end Go.Proofs.YtemdmalcoemhnabGreat

namespace Go.Proofs.YtemdmalcoemhnabGreat
namespace Nf
open Go.RowKit Od Pr Ha

set_option maxRecDepth 100000 in
set_option maxHeartbeats 2000000 in
theorem eq_any (v v' : Value) (zs ys : List Int) (w : World) (h : Sl .i32 w v zs) (h' : Sl .i32 w v' ys) (hn : zs.length ≤ 1000000000) :
    Calls Tryz.prog 28 #[v, v'] w fun e w' => e = .returned (.bool (decide (zs = ys))) ∧ Below w.heap.size w w' := by
  obtain ⟨ao, cap, rfl, h⟩ := h
  obtain ⟨ao', cap', rfl, h'⟩ := h'
  have HS := hid h
  have HS' := hid h'
  clear h h'
  by_cases hl : zs.length = ys.length
  · have HL := hid hl
    have hl1 : zs.length ≤ ys.length := by omega
    have hl2 : ys.length ≤ zs.length := by omega
    rw [← hl]
    clear hl
    have hok := hid (Ok.start w)
    go_enter Tryz.func28, Tryz.ntmps28
    go_wp2_with fail
    go_loopg [13] zs.length (fun g vi wr => ∃ k : Nat, vi = .int .i64 k ∧ k ≤ zs.length ∧ g = zs.length - k ∧ Hid (zs.take k = ys.take k ∧ Ok w.heap.size w wr))
    case atStart => exact ⟨0, rfl, Nat.zero_le _, rfl, rfl, hok.out⟩
    case round =>
      obtain ⟨k, rfl, hk, hg, H⟩ := hrel
      have HG := hid hg
      clear hg hok
      by_cases hlt : k < zs.length
      · obtain ⟨b, off, rfl, hb, hc⟩ := HS.out.at_ k hlt
        obtain ⟨b', off', rfl, hb', hc'⟩ := HS'.out.at_ k (by omega)
        have c1 := ((H.out.2.1.cell (p := ⟨b, off + k, none⟩) hb).trans hc)
        have c2 := ((H.out.2.1.cell (p := ⟨b', off' + k, none⟩) hb').trans hc')
        have c1d : wr.drew.cell? ⟨b, off + k, none⟩ = some (.int .i32 zs[k]) := c1
        have c2d : wr.drew.cell? ⟨b', off' + k, none⟩ = some (.int .i32 (ys[k]'(by omega))) := c2
        clear hc hc'
        have hlt' : (k : Int) < (zs.length : Int) := by omega
        have HOD : Hid (Ok w.heap.size w wr.drew) := H.out.2.step ((Below.refl _ _).drew)
        by_cases he : zs[k] = ys[k]'(by omega)
        · have HT : Hid (zs.take (k + 1) = ys.take (k + 1)) := by
            show _ = _
            rw [List.take_succ_eq_append_getElem hlt, List.take_succ_eq_append_getElem (show k < ys.length by omega), H.out.1, he]
          rw [← he] at c2 c2d
          clear he
          generalize zs[k] = z at *
          go_wp2_with fail
          go_region
          go_wp2_with fail
          go_roundg (zs.length - (k + 1))
          case measure => rw [HG.out]; omega
          case rel => exact ⟨k + 1, by go_num, by omega, rfl, HT.out, HOD.out⟩
        · have HT : Hid (¬ zs = ys) := fun e => he (by simp only [e])
          generalize zs[k] = z at *
          generalize ys[k]'(by omega) = y at *
          have hne : (z != y) = true := by simpa using he
          go_wp2_with fail
          go_region
          go_wp2_with fail
          go_ret
          exact ⟨ret_bool (decide_eq_false HT.out).symm, HOD.out.1⟩
      · have e : k = zs.length := by omega
        subst e
        go_wp2_with fail
        go_ret
        refine ⟨ret_bool (decide_eq_true ?_).symm, H.out.2.1⟩
        have h1 := H.out.1
        rwa [List.take_length, HL.out, List.take_length] at h1
  · have hne : ¬ (zs.length : Int) = (ys.length : Int) := by omega
    go_enter Tryz.func28, Tryz.ntmps28
    go_wp2_with fail
    go_ret
    exact ⟨ret_bool (decide_eq_false (fun e => hl (by rw [e]))).symm, Below.refl _ _⟩

end Nf
end Go.Proofs.YtemdmalcoemhnabGreat

namespace Go.Proofs.YtemdmalcoemhnabGreat
namespace Nf
open Go.RowKit Od Pr Ha

theorem aw1 : nfcP clsP [101, 769] = [233] := by kernel_rfl
theorem aw2 : nfcP clsP [8491] = [197] := by kernel_rfl
theorem aw3 : nfcP clsP [4370, 4449, 4523] = [54620] := by kernel_rfl

theorem sl1 (k : IntKind) (w : World) (t : TypeId) (x : Int) (N : Nat) (hN : N = w.heap.size) : Sn k (w.alloc (.cells #[.int k x] t)) (.slice (some ⟨N, 0, none⟩) 1 1) [x] := by
  subst hN
  have hb := heap_new w (.cells #[.int k x] t)
  refine ⟨_, 1, rfl, Nat.le_refl _, fun e => (by cases e), fun j hj => ⟨w.heap.size, 0, rfl, by simp, ?_⟩⟩
  simp only [World.cell?, hb]
  match j, hj with
  | 0, _ => rfl
theorem sl2 (k : IntKind) (w : World) (t : TypeId) (x y : Int) (N : Nat) (hN : N = w.heap.size) : Sn k (w.alloc (.cells #[.int k x, .int k y] t)) (.slice (some ⟨N, 0, none⟩) 2 2) [x, y] := by
  subst hN
  have hb := heap_new w (.cells #[.int k x, .int k y] t)
  refine ⟨_, 2, rfl, Nat.le_refl _, fun e => (by cases e), fun j hj => ⟨w.heap.size, 0, rfl, by simp, ?_⟩⟩
  simp only [World.cell?, hb]
  match j, hj with
  | 0, _ => rfl
  | 1, _ => rfl
theorem alloc_nfc {w W : World} {f b p d u s : Nat} (hF : Fm w f b p d u s) (h : Below w.heap.size w W) (o : Obj) (v : Value) (l : List Int) (z : Int) (hl : Sn .i32 (W.alloc o) v l) (hI : ∀ y ∈ l, I32 y) (hn : l.length ≤ 10000) (e : nfcP clsP l = [z]) :
    Calls Tryz.prog 23 #[.pointer (some ⟨f, 0, none⟩), v] (W.alloc o) fun e w' => ∃ v', e = .returned v' ∧ Sl .i32 w' v' [z] ∧ Below w.heap.size w w' := by
  have hb : Below w.heap.size w (W.alloc o) := h.trans (((Below.refl W.heap.size W).alloc (Nat.le_refl _) _).mono h.size)
  refine (nfc_any (hF.step hb) hl.sl hI hn).mono ?_
  rintro e' w' ⟨v', he, h1, h2⟩
  rw [e] at h1
  exact ⟨v', he, h1, hb.trans (h2.mono hb.size)⟩
theorem same1 {w W : World} (h : Below w.heap.size w W) {v : Value} (z : Int) (hl : Sn .i64 W v [z]) (N : Nat) (hN : N = W.heap.size) : Calls Tryz.prog 11 #[v, .slice (some ⟨N, 0, none⟩) 1 1] (W.alloc (.cells #[.int .i64 z] 3)) fun e w' => e = .returned (.bool true) ∧ Below w.heap.size w w' := by
  have hb : Below W.heap.size W (W.alloc (.cells #[.int .i64 z] 3)) := (Below.refl W.heap.size W).alloc (Nat.le_refl _) _
  refine (same_any v _ [z] [z] _ (hl.step hb).sl (sl1 .i64 W 3 z N hN).sl (by simp)).mono ?_
  rintro e' w' ⟨he, h2⟩
  refine ⟨by rw [he]; simp, ?_⟩
  exact (h.trans (hb.mono h.size)).trans (h2.mono (h.trans (hb.mono h.size)).size)

end Nf
end Go.Proofs.YtemdmalcoemhnabGreat

namespace Go.Proofs.YtemdmalcoemhnabGreat
namespace Nf
open Go.RowKit Od Pr Ha

set_option maxRecDepth 1000000 in
theorem rows_up : allP.all (fun x => skipB x || (clsP x.1 == 0 && !witB x.2.1 4352 19 && !sylB x.2.1)) = true := by kernel_rfl
set_option maxRecDepth 1000000 in
theorem rows_syl : Uc.allT.all (fun x => x.2.2.2.2.2.1 == 0 || decide (x.2.1 < 44032) || decide (55203 < x.1)) = true := by kernel_rfl
theorem findL_cls (r : Int) (h1 : 44032 ≤ r) (h2 : r ≤ 55203) : ∀ (L : List Uc.Ln), L.all (fun x => x.2.2.2.2.2.1 == 0 || decide (x.2.1 < 44032) || decide (55203 < x.1)) = true → (Uc.findL r L).2.2.2.2.2.1 = 0
  | [], _ => rfl
  | x :: L, h => by
    rw [List.all_cons, Bool.and_eq_true] at h
    unfold Uc.findL
    split
    · rename_i hh
      have := h.1
      simp only [Bool.or_eq_true, beq_iff_eq, decide_eq_true_eq] at this
      omega
    · exact findL_cls r h1 h2 L h.2
theorem cls_syl {r : Int} (h : sylB r = true) : clsP r = 0 := by
  obtain ⟨h1, h2⟩ := syl_bd h
  rw [cls_row, Uc.rrow_find]
  exact findL_cls r h1 h2 _ rows_syl
theorem up_row {a b : Int} (h : u2 a b = true) : clsP (u1 a b) = 0 ∧ witB a 4352 19 = false ∧ sylB a = false := by
  unfold u2 at h
  unfold u1
  cases hu : upF allP (a, b) with
  | none => rw [hu] at h; cases h
  | some z =>
    obtain ⟨R, hR, hs, e, rfl⟩ := up_mem allP _ z hu
    simp only [Prod.mk.injEq] at e
    have := List.all_eq_true.1 rows_up R hR
    simp only [hs, Bool.false_or, Bool.and_eq_true, beq_iff_eq, Bool.not_eq_true'] at this
    rw [e.1]
    exact ⟨this.1.1, this.1.2, this.2⟩
/-- What two make is a starter. -/
theorem mk_cls {a b : Int} (h : mkB a b = true) : clsP (mkI a b) = 0 := by
  unfold mkI
  split
  · exact (up_row ‹_›).1
  · split
    · exact cls_syl (lv_parts a b ‹_›).1
    · have h3 : otB a b = true := by
        unfold mkB at h
        cases hu : u2 a b <;> cases hl : lvB a b <;> simp_all
      exact cls_syl (ot_parts a b h3).2.2.1
/-- What two make, by the reference. -/
def rmk (a b : Int) : Int := if 0 ≤ rjI a b then rjI a b else rupP allP a b allP
theorem rmk_eq (a b : Int) : rmk a b = if mkB a b = true then mkI a b else -1 := by
  unfold rmk mkB mkI
  rcases rup_eq a b with ⟨h1, h2, h3⟩ | ⟨h1, h2, h3⟩
  · obtain ⟨_, q1, q2⟩ := up_row h1
    have e1 : lvB a b = false := by unfold lvB; rw [q1]; rfl
    have e2 : otB a b = false := by unfold otB opnB; rw [q2]; rfl
    have e3 : rjI a b = -1 := by unfold rjI; rw [e1, e2]; rfl
    rw [e3, if_neg (by omega), h1, h2]; simp
  · rw [h1, h3]
    by_cases e1 : lvB a b = true
    · have e3 : rjI a b = lvI a b := by unfold rjI; rw [if_pos e1]
      have := syl_bd (lv_parts a b e1).1
      rw [e3, if_pos (by omega), e1]; simp
    · have e1' : lvB a b = false := by simpa using e1
      by_cases e2 : otB a b = true
      · have e3 : rjI a b = otI a b := by unfold rjI; rw [if_neg e1, if_pos e2]
        have := syl_bd (ot_parts a b e2).2.2.1
        rw [e3, if_pos (by omega), e1', e2]; simp
      · have e2' : otB a b = false := by simpa using e2
        have e3 : rjI a b = -1 := by unfold rjI; rw [if_neg e1, if_neg e2]
        rw [e3, if_neg (by omega), e1', e2']; simp
theorem mk_pos {a b : Int} (h : mkB a b = true) : 0 ≤ mkI a b := by
  have e := rmk_eq a b
  rw [if_pos h] at e
  rw [← e]
  unfold rmk
  rcases rup_eq a b with ⟨h1, h2, h3⟩ | ⟨h1, h2, h3⟩
  · split <;> omega
  · unfold rmk at e
    split
    · assumption
    · rename_i h4
      rw [if_neg h4, h3] at e
      exfalso
      unfold mkB at h
      unfold mkI at e
      rw [h1] at h e
      by_cases e1 : lvB a b = true
      · have := syl_bd (lv_parts a b e1).1
        rw [if_neg (by decide), if_pos e1] at e
        omega
      · have e1' : lvB a b = false := by simpa using e1
        rw [e1'] at h
        have e2 : otB a b = true := by simpa using h
        have := syl_bd (ot_parts a b e2).2.2.1
        rw [if_neg (by decide), if_neg e1] at e
        omega

/-- What holds of a state: what stands behind the starter are marks, and the starter is one. -/
def okC (s : CS) : Prop := (∀ m ∈ s.2.2, clsP m ≠ 0) ∧ match s.2.1 with
  | none => s.1 = []
  | some x => clsP x = 0
theorem try_some {s : CS} {r : Int} (h : tryC clsP s r = true) : ∃ x, s.2.1 = some x ∧ mkB x r = true := by
  unfold tryC at h
  cases hx : s.2.1 with
  | none => rw [hx] at h; cases h
  | some x => rw [hx] at h; simp only [Bool.and_eq_true] at h; exact ⟨x, rfl, h.2⟩
theorem okC_step {s : CS} (r : Int) (h : okC s) : okC (stepC clsP s r) := by
  obtain ⟨A, o, M⟩ := s
  by_cases ht : tryC clsP (A, o, M) r = true
  · obtain ⟨x, e, hm⟩ := try_some ht
    simp only at e
    subst e
    rw [step_join ht]
    exact ⟨h.1, mk_cls hm⟩
  · unfold stepC
    rw [if_neg ht]
    split
    · rename_i hc
      exact ⟨fun m hm => by simp at hm, hc⟩
    · rename_i hc
      refine ⟨fun m hm => ?_, h.2⟩
      rcases List.mem_append.1 hm with hm | hm
      · exact h.1 m hm
      · simp at hm; subst hm; exact hc
theorem okC_fold : ∀ (l : List Int) (s : CS), okC s → okC (l.foldl (stepC clsP) s)
  | [], _, h => h
  | r :: l, _, h => okC_fold l _ (okC_step r h)

theorem getD_mid (P M R : List Int) (j : Nat) (h : j < M.length) : (P ++ M ++ R).getD (P.length + j) 0 = M[j] := by
  rw [List.getD_eq_getElem?_getD, List.append_assoc, List.getElem?_append_right (by omega), Nat.add_sub_cancel_left, List.getElem?_append_left h, List.getElem?_eq_getElem h]
  rfl
theorem start_marks (P M R : List Int) (h : ∀ m ∈ M, clsP m ≠ 0) : ∀ j, j ≤ M.length → startN clsP (P ++ M ++ R) (P.length + j) = startN clsP (P ++ M ++ R) P.length
  | 0, _ => rfl
  | j + 1, hj => by
    have e : startN clsP (P ++ M ++ R) (P.length + (j + 1)) = if clsP ((P ++ M ++ R).getD (P.length + j) 0) = 0 then ((P.length + j : Nat) : Int) else startN clsP (P ++ M ++ R) (P.length + j) := rfl
    rw [e, getD_mid P M R j (by omega), if_neg (h _ (List.getElem_mem _)), start_marks P M R h j (by omega)]
/-- The starter that the reference finds. -/
theorem start_at (s : CS) (h : okC s) (R : List Int) : startN clsP (outC s ++ R) (outC s).length = stI s := by
  obtain ⟨A, o, M⟩ := s
  obtain ⟨h1, h2⟩ := h
  cases o with
  | none =>
    simp only at h2
    subst h2
    have := start_marks [] M R h1 M.length (Nat.le_refl _)
    simp only [List.nil_append, List.length_nil, Nat.zero_add] at this
    show startN clsP (([] ++ [] ++ M) ++ R) _ = -1
    simp only [List.nil_append, outC, Option.toList] at this ⊢
    rw [this]
    rfl
  | some x =>
    simp only at h2
    have := start_marks (A ++ [x]) M R h1 M.length (Nat.le_refl _)
    have e : (outC (A, some x, M)).length = (A ++ [x]).length + M.length := by simp [outC]; omega
    rw [e]
    show startN clsP ((A ++ [x] ++ M) ++ R) _ = _
    rw [this]
    have e2 : (A ++ [x]).length = A.length + 1 := by simp
    rw [e2]
    have e3 : (A ++ [x] ++ M ++ R).getD (A.length + 0) 0 = x := by
      simp
    show (if clsP ((A ++ [x] ++ M ++ R).getD (A.length) 0) = 0 then ((A.length : Nat) : Int) else _) = _
    rw [Nat.add_zero] at e3
    rw [e3, if_pos h2]
    rfl
theorem gr_at : ∀ (M : List Int) (g0 : Int), M.foldl (fun g r => if g < clsP r then clsP r else g) g0 = g0 ∨ ∃ m ∈ M, M.foldl (fun g r => if g < clsP r then clsP r else g) g0 = clsP m
  | [], _ => .inl rfl
  | x :: M, g0 => by
    rw [List.foldl_cons]
    rcases gr_at M (if g0 < clsP x then clsP x else g0) with h | ⟨m, hm, h⟩
    · rw [h]
      split
      · exact .inr ⟨x, by simp, rfl⟩
      · exact .inl rfl
    · exact .inr ⟨m, by simp [hm], h⟩
theorem gr_any (M : List Int) (r : Int) (h : ∀ m ∈ M, clsP m ≠ 0) : M.any (fun m => decide (clsP r ≤ clsP m)) = (decide (0 < gr clsP M) && decide (clsP r ≤ gr clsP M)) := by
  rw [Bool.eq_iff_iff, Bool.and_eq_true, decide_eq_true_eq, decide_eq_true_eq, List.any_eq_true]
  have hg := gr_ge clsP M 0
  have ha := gr_at M 0
  unfold gr
  constructor
  · rintro ⟨m, hm, hh⟩
    have h1 := of_decide_eq_true hh
    have h2 := hg.2 m hm
    have h3 := h m hm
    have h4 := (cls_bd m).1
    exact ⟨by omega, by omega⟩
  · rintro ⟨h1, h2⟩
    rcases ha with ha | ⟨m, hm, ha⟩
    · omega
    · exact ⟨m, hm, decide_eq_true (by omega)⟩
/-- What is blocked, by the reference. -/
theorem blocked_at (A M : List Int) (x r : Int) (h : okC (A, some x, M)) (R : List Int) : blockedP clsP (outC (A, some x, M) ++ r :: R) (outC (A, some x, M)).length = (decide (0 < gr clsP M) && decide (clsP r ≤ gr clsP M)) := by
  unfold blockedP
  rw [start_at _ h]
  have e1 : stI (A, some x, M) = (A.length : Int) := rfl
  have e2 : (outC (A, some x, M) ++ r :: R).getD (outC (A, some x, M)).length 0 = r := by
    simp
  rw [e1, e2, decide_eq_true (by omega), Bool.true_and, List.take_left, ← gr_any M r h.1]
  have e3 : (outC (A, some x, M)).drop ((A.length : Int).toNat + 1) = M := by
    show (A ++ [x] ++ M).drop (A.length + 1) = M
    rw [show A.length + 1 = (A ++ [x]).length by simp, List.drop_left]
  rw [e3]
end Nf
end Go.Proofs.YtemdmalcoemhnabGreat

namespace Go.Proofs.YtemdmalcoemhnabGreat
namespace Nf
open Go.RowKit Od Pr Ha

/-- A row of ints of a call's own. -/
def Own (B : Nat) (w : World) (v : Value) (l : List Int) : Prop := w.ownsRow B 3 1 v l.length (ivs .i64 l) ∧ isSome v
theorem own_lit (w : World) (l : List Int) (h : l.length ≤ 5000) (N : Nat) (hN : N = w.heap.size) (n : Nat) (hn : n = l.length) : Own N (w.alloc (.cells (ivs .i64 l).toArray 3)) (.slice (some ⟨N, 0, none⟩) n n) l := by
  subst hN
  subst hn
  exact ⟨⟨by rw [ivs_len]; simp, .inr ⟨w.heap.size, l.length, _, rfl, Nat.le_refl _, heap_new w _, Nat.le_refl _, by unfold maxLen; omega, by rw [List.size_toArray, ivs_len]; omega, by show (ivs .i64 l).take (l.length * 1) = _; rw [List.take_of_length_le (by rw [ivs_len]; omega)]⟩⟩, trivial⟩
theorem Own.step {B : Nat} {w w' : World} {v : Value} {l : List Int} (h : Own B w v l) (hb : Below w.heap.size w w') : Own B w' v l := ⟨Uc.own_below h.1 hb, h.2⟩
theorem Own.sn {B : Nat} {w : World} {v : Value} {l : List Int} (h : Own B w v l) : Sn .i64 w v l := (own_sl h.1).sn h.2
theorem Own.base {B B' : Nat} {w : World} {v : Value} {l : List Int} (h : Own B w v l) (hB : B' ≤ B) : Own B' w v l := ⟨Od.own_base h.1 hB, h.2⟩

/-- append(out, l...) onto a row of the call's own. -/
theorem app_row {ops : Array Oper} {rest : List Oper} {o : Oper} {a : Act} {Q : Exit → Act → World → Prop} (hgd : o.guard = none) (s x : Operand)
    (ho : o.op = .call { callee := .builtin .append, args := #[s, x], argTypes := #[31, 31] }) (W : World) (B : Nat) (v u : Value) (xs zs : List Int) (hs : a.eval s = v) (hx : a.eval x = u)
    (hown : Own B W v xs) (hz : Sn .i64 W u zs) (hn : xs.length + zs.length ≤ 1000000000) (hB : B ≤ W.heap.size)
    (h : ∀ v' w', Own B w' v' (xs ++ zs) → Below B W w' → wpList Tryz.prog ops Q rest (a.put o.dst v') w') :
    wpList Tryz.prog ops Q (o :: rest) a W := by
  obtain ⟨ad, cap, rfl, hz⟩ := hz
  exact app_all hgd s x ho W B v ad cap xs zs hs hx hown.1 hown.2 hz hn hB (fun v' w' h1 h2 h3 _ => h v' w' ⟨h1, h2⟩ h3)

theorem Own.alloc_step {B : Nat} {w : World} {v : Value} {l : List Int} (h : Own B w v l) (o : Obj) : Own B (w.alloc o) v l := h.step ((Below.refl _ _).alloc (Nat.le_refl _) _)

set_option maxRecDepth 100000 in
set_option maxHeartbeats 4000000 in
theorem rapart_any {g cap : Nat} : ∀ (n : Nat) (r : Int), okF n r = true → 3 * 2 ^ n ≤ 500000000 → ∀ (w : World), RR3 w g allP →
    Calls Tryz.prog 61 #[.slice (some ⟨g, 0, none⟩) allP.length cap, .int .i64 r] w fun e w' => ∃ v', e = .returned v' ∧ Own w.heap.size w' v' (apF n r) ∧ Below w.heap.size w w'
  | 0, _, h, _, _, _ => by cases h
  | n + 1, r, hok, hn6, w, hR => by
    rw [Nat.pow_succ] at hn6
    replace hn6 : 3 * 2 ^ n ≤ 500000000 := by omega
    have ih := fun (r : Int) (h : okF n r = true) => rapart_any (g := g) (cap := cap) n r h hn6
    have HIH := hid ih
    have HR := hid hR
    have H0 := hid (Ok.start w)
    have hll : allP.length ≤ 1000 := by decide
    have hlenA : ∀ x, (apF n x).length ≤ 3 * 2 ^ n := apF_len n
    simp only [okF] at hok
    by_cases hs : sylB r = true
    · obtain ⟨hs1, hs2⟩ := syl_bd hs
      have HE : Hid (apF (n + 1) r = sylL r) := by show _ = _; simp only [apF]; rw [if_pos hs]
      have HSp := hid (fun w => rparts_yes r w hs1 hs2)
      have HSL : Hid (sylL r = if talI r = 0 then [ledI r, vowI r] else [ledI r, vowI r, talI r]) := rfl
      clear ih hR hok hs hs1 hs2 hlenA
      generalize ledI r = a at *
      generalize vowI r = c at *
      generalize talI r = t at *
      generalize allP.length = al at *
      by_cases ht : t = 0
      · have HS0 : Hid (apF (n + 1) r = [a, c]) := by show _ = _; rw [HE.out, HSL.out, if_pos ht]
        clear HSL HE
        subst ht
        go_enter Tryz.func61, Tryz.ntmps61
        go_wp2_with (go_at_call 84; refine (HSp.out _).mono ?_; rintro e w1 ⟨rfl, hb1⟩; have HO1 := hid (H0.out.step hb1); clear hb1)
        go_ret
        refine ⟨_, rfl, ?_, ?_⟩
        · rw [HS0.out]
          exact (own_lit (w1.alloc (.cells #[.int .i64 a, .int .i64 c, .int .i64 0] 135)) [a, c] (by simp) (w1.heap.size + 1) (by simp) 2 rfl).base (by have := HO1.out.2; omega)
        · exact ((HO1.out.alloc).alloc).1
      · have HS0 : Hid (apF (n + 1) r = [a, c, t]) := by show _ = _; rw [HE.out, HSL.out, if_neg ht]
        have htz : (t == 0) = false := by simpa using ht
        clear HSL HE
        go_enter Tryz.func61, Tryz.ntmps61
        go_wp2_with (go_at_call 84; refine (HSp.out _).mono ?_; rintro e w1 ⟨rfl, hb1⟩; have HO1 := hid (H0.out.step hb1); clear hb1)
        go_ret
        refine ⟨_, rfl, ?_, ?_⟩
        · rw [HS0.out]
          exact (own_lit (w1.alloc (.cells #[.int .i64 a, .int .i64 c, .int .i64 t] 135)) [a, c, t] (by simp) (w1.heap.size + 1) (by simp) 3 rfl).base (by have := HO1.out.2; omega)
        · exact ((HO1.out.alloc).alloc).1
    · have HSp := hid (fun w => rparts_no r w (by
        have hn : ¬ (44032 ≤ r ∧ r < 44032 + 11172) := fun h => hs (decide_eq_true h)
        omega))
      rw [if_neg hs] at hok
      have HE : Hid (apF (n + 1) r = if (dnP r).2.2 = 1 then apF n (dnP r).1 else if (dnP r).2.2 = 2 then apF n (dnP r).1 ++ apF n (dnP r).2.1 else [r]) := by show _ = _; simp only [apF]; rw [if_neg hs]
      have hd3 : 0 ≤ (dnP r).2.2 ∧ (dnP r).2.2 ≤ 2 := by
        have := d_bd r
        rw [← (dn_d r).2.2]; exact this.2.2
      obtain ⟨y1, y2, y3, hy⟩ : ∃ y1 y2 y3, dnP r = (y1, y2, y3) := ⟨_, _, _, rfl⟩
      have HDn := hid (fun (W : World) (h : RR3 W g allP) => rdown_any (cap := cap) h hll r (y1 := y1) (y2 := y2) (y3 := y3) hy)
      have HRs := hid (fun (W : World) (h : Below w.heap.size w W) => hR.step h)
      rw [hy] at hok HE hd3
      simp only at hok HE hd3
      have hl1 := hlenA y1
      have hl2 := hlenA y2
      clear ih hR hs hy hlenA
      by_cases h0 : y3 = 0
      · have HR0 : Hid (apF (n + 1) r = [r]) := by show _ = _; rw [HE.out, if_neg (by omega), if_neg (by omega)]
        subst h0
        clear hok HE hd3 hl1 hl2
        generalize allP.length = al at *
        go_enter Tryz.func61, Tryz.ntmps61
        go_wp2_with (first | (go_at_call 84; refine (HSp.out _).mono ?_; rintro e w1 ⟨rfl, hb1⟩; have HO1 := hid ((H0.out.step hb1).alloc (o := .cells #[.int .i64 0, .int .i64 0, .int .i64 0] 135)); clear hb1) | (go_at_call 85; refine (HDn.out _ (HRs.out _ HO1.out.1)).mono ?_; rintro e w2 ⟨rfl, hb2⟩; have HO2 := hid (HO1.out.step hb2); clear hb2))
        go_ret
        refine ⟨_, rfl, ?_, ?_⟩
        · rw [HR0.out]
          exact (own_lit (w2.alloc (.cells #[.int .i64 y1, .int .i64 y2] 138)) [r] (by simp) (w2.heap.size + 1) (by simp) 1 rfl).base (by have := HO2.out.2; omega)
        · exact ((HO2.out.alloc).alloc).1
      · have h0' : (y3 == 0) = false := by simpa using h0
        by_cases h1 : y3 = 1
        · subst h1
          have HR1 : Hid (apF (n + 1) r = apF n y1) := by show _ = _; rw [HE.out, if_pos rfl]
          rw [if_pos rfl] at hok
          clear HE hd3 hl1 hl2
          have HI := hid (fun (W : World) (h : Below w.heap.size w W) => HIH.out y1 hok W (HRs.out _ h))
          clear hok HIH
          generalize allP.length = al at *
          go_enter Tryz.func61, Tryz.ntmps61
          go_wp2_with (first | (go_at_call 84; refine (HSp.out _).mono ?_; rintro e w1 ⟨rfl, hb1⟩; have HO1 := hid ((H0.out.step hb1).alloc (o := .cells #[.int .i64 0, .int .i64 0, .int .i64 0] 135)); clear hb1) | (go_at_call 85; refine (HDn.out _ (HRs.out _ HO1.out.1)).mono ?_; rintro e w2 ⟨rfl, hb2⟩; have HO2 := hid ((HO1.out.step hb2).alloc (o := .cells #[.int .i64 y1, .int .i64 y2] 138)); clear hb2) | (go_at_call 61; refine (HI.out _ HO2.out.1).mono ?_; rintro e w3 ⟨v3, rfl, h3, h4⟩; have HO3 := hid (And.intro (h3.base HO2.out.2) (HO2.out.step h4)); clear h3 h4))
          go_ret
          exact ⟨_, rfl, by rw [HR1.out]; exact HO3.out.1, HO3.out.2.1⟩
        · have h2 : y3 = 2 := by omega
          subst h2
          have HR2 : Hid (apF (n + 1) r = apF n y1 ++ apF n y2) := by show _ = _; rw [HE.out, if_neg (by decide), if_pos rfl]
          rw [if_neg (by decide), if_pos rfl, Bool.and_eq_true] at hok
          have HI1 := hid (fun (W : World) (h : Below w.heap.size w W) => HIH.out y1 hok.1 W (HRs.out _ h))
          have HI2 := hid (fun (W : World) (h : Below w.heap.size w W) => HIH.out y2 hok.2 W (HRs.out _ h))
          have hsum : (apF n y1).length + (apF n y2).length ≤ 1000000000 := by
            have e : 3 * 2 ^ n ≤ 500000000 := hn6
            omega
          clear hok HIH HE hd3 hl1 hl2 h0 h0' h1
          generalize allP.length = al at *
          go_enter Tryz.func61, Tryz.ntmps61
          go_wp2_with (first | (go_at_call 84; refine (HSp.out _).mono ?_; rintro e w1 ⟨rfl, hb1⟩; have HO1 := hid ((H0.out.step hb1).alloc (o := .cells #[.int .i64 0, .int .i64 0, .int .i64 0] 135)); clear hb1) | (go_at_call 85; refine (HDn.out _ (HRs.out _ HO1.out.1)).mono ?_; rintro e w2 ⟨rfl, hb2⟩; have HO2 := hid ((HO1.out.step hb2).alloc (o := .cells #[.int .i64 y1, .int .i64 y2] 138)); have hc2 : Hid ((w2.alloc (.cells #[.int .i64 y1, .int .i64 y2] 138)).cell? ⟨w2.heap.size, 1, none⟩ = some (.int .i64 y2) ∧ w2.heap.size < (w2.alloc (.cells #[.int .i64 y1, .int .i64 y2] 138)).heap.size) := ⟨by unfold World.cell?; rw [heap_new]; rfl, by simp⟩; clear hb2))
          refine (HI1.out _ HO2.out.1).mono ?_
          rintro e w3 ⟨v3, rfl, h3, h4⟩
          have HO3 := hid (And.intro (h3.base HO2.out.2) (HO2.out.step h4))
          have hc3 := (h4.cell (p := ⟨w2.heap.size, 1, none⟩) hc2.out.2).trans hc2.out.1
          clear h3 h4 hc2
          go_wp2_with fail
          refine (HI2.out _ HO3.out.2.1).mono ?_
          rintro e w4 ⟨v4, rfl, h3, h4⟩
          have HO4 := hid (And.intro (HO3.out.1.step h4) (And.intro h3.sn (HO3.out.2.step h4)))
          clear h3 h4 hc3
          go_wp2_with (at_builtin; refine app_row rfl (.tmp 47) (.tmp 51) rfl w4 w.heap.size v3 v4 _ _ rfl rfl HO4.out.1 HO4.out.2.1 hsum HO4.out.2.2.2 (fun v5 w5 h3 h4 => ?_); have HO5 := hid (And.intro h3 (ok_below h4 HO4.out.2.2)); clear h3 h4)
          go_ret
          exact ⟨_, rfl, by rw [HR2.out]; exact HO5.out.1, HO5.out.2.1⟩

set_option maxRecDepth 100000 in
set_option maxHeartbeats 4000000 in
theorem rnfd_any {w : World} {v : Value} {zs : List Int} (hS : Sn .i64 w v zs) (hn : zs.length ≤ 10000) :
    Calls Tryz.prog 49 #[v] w fun e w' => ∃ v', e = .returned v' ∧ Sn .i64 w' v' (nfdP clsP zs) ∧ Below w.heap.size w w' := by
  obtain ⟨ad, cap, rfl, hS⟩ := hS
  have HS := hid hS
  have H0 := hid (Ok.start w)
  have HA := hid (fun (W : World) (r : Int) (g cap : Nat) (h : RR3 W g allP) => rapart_any (cap := cap) 5 r (ok5 r) (by decide) W h)
  have HAll := hid (rall_any w)
  have HSo := hid (fun (W : World) (v : Value) (l : List Int) (h : Sn .i64 W v l) (hn : l.length ≤ 1000000) => rsort_any h hn)
  generalize hlen : zs.length = len at hn
  have HLn := hid hlen
  clear hS hlen
  go_enter Tryz.func49, Tryz.ntmps49
  go_wp2_with (go_at_call 57; refine HAll.out.mono ?_; rintro e w1 ⟨va, rfl, h1, h2⟩; obtain ⟨g, gcap, rfl, hR⟩ := rr3_of_own h1 (by decide); have H1 := hid (And.intro hR (H0.out.step h2)); clear h1 h2 hR)
  have HO : Hid (Own w1.heap.size (w1.alloc (.cells #[] 3)) (.slice (some ⟨w1.heap.size, 0, none⟩) 0 0) []) := ⟨World.ownsRow_made w1 #[] 0 (Nat.le_refl _) (by unfold maxLen; omega) rfl, trivial⟩
  have hok := hid ((Ok.start w1).alloc (o := .cells #[] 3))
  go_loopg [4, 5] len (fun gg vo vi wr => ∃ k : Nat, vi = .int .i64 k ∧ k ≤ len ∧ gg = len - k ∧ Hid (Own w1.heap.size wr vo ((zs.take k).flatMap apP) ∧ Ok w1.heap.size w1 wr))
  case atStart => exact ⟨0, rfl, Nat.zero_le _, rfl, HO.out, hok.out⟩
  case round =>
    obtain ⟨k, rfl, hk, hg, H⟩ := hrel
    have HG := hid hg
    clear hg HO hok
    by_cases hlt : k < len
    · have hlx : k < zs.length := by rw [HLn.out]; exact hlt
      obtain ⟨bb, off, e0, hb, c1⟩ := HS.out.at_ k hlx
      have e0' := Option.some.inj e0
      subst e0'
      have d1 := (((H1.out.2.1.trans (H.out.2.1.mono H1.out.2.1.size))).cell (p := ⟨bb, off + k, none⟩) hb).trans c1
      have HE : Hid ((zs.take (k + 1)).flatMap apP = (zs.take k).flatMap apP ++ apF 5 zs[k]) := by
        show _ = _
        rw [List.take_succ_eq_append_getElem hlx, List.flatMap_append, List.flatMap_cons, List.flatMap_nil, List.append_nil, ap5]
      have hle : ((zs.take k).flatMap apP).length + (apF 5 zs[k]).length ≤ 1000000000 := by
        have h1 := flat_len (zs.take k)
        rw [List.length_take] at h1
        have h2 := apF_len 5 zs[k]
        omega
      have HA1 := hid (HA.out wr zs[k] g gcap (H1.out.1.step H.out.2.1))
      clear c1
      generalize zs[k] = x at *
      have z1 : (k : Int) < (len : Int) := by omega
      go_wp2_with fail
      refine HA1.out.mono ?_
      rintro e w2 ⟨v2, rfl, h3, h4⟩
      have H2 := hid (And.intro (H.out.1.step h4) (And.intro h3.sn (H.out.2.step h4)))
      clear h3 h4 d1
      go_wp2_with (at_builtin; refine app_row rfl (.tmp 14) (.tmp 20) rfl w2 w1.heap.size _ v2 _ _ rfl rfl H2.out.1 H2.out.2.1 hle H2.out.2.2.2 (fun v5 w5 h3 h4 => ?_); have H5 : Hid (Own w1.heap.size w5 v5 ((zs.take (k + 1)).flatMap apP) ∧ Ok w1.heap.size w1 w5) := ⟨by rw [HE.out]; exact h3, ok_below h4 H2.out.2.2⟩; clear h3 h4)
      go_roundg (len - (k + 1))
      case measure => rw [HG.out]; omega
      case rel => exact ⟨k + 1, by go_num, by omega, rfl, H5.out⟩
    · have e : k = len := by omega
      subst e
      have HW : Hid (Own w1.heap.size wr u4 (zs.flatMap apP) ∧ Ok w1.heap.size w1 wr) := by
        have := H.out
        rw [← HLn.out, List.take_length] at this
        exact this
      have hfl : (zs.flatMap apP).length ≤ 1000000 := Nat.le_trans (flat_len zs) (by rw [HLn.out]; omega)
      have HSt := hid (HSo.out wr u4 (zs.flatMap apP) HW.out.1.sn hfl)
      go_wp2_with fail
      refine HSt.out.mono ?_
      rintro e w2 ⟨v2, rfl, h3, h4⟩
      have H5 := hid (And.intro h3 (HW.out.2.step h4))
      clear h3 h4
      go_wp2_with fail
      go_ret
      exact ⟨_, rfl, H5.out.1, H1.out.2.1.trans (H5.out.2.1.mono H1.out.2.1.size)⟩
end Nf
end Go.Proofs.YtemdmalcoemhnabGreat

namespace Go.Proofs.YtemdmalcoemhnabGreat
namespace Nf
open Go.RowKit Od Pr Ha

set_option maxRecDepth 100000 in
set_option maxHeartbeats 2000000 in
theorem rmakes_any {w : World} {g cap : Nat} (h : RR3 w g allP) {a b : Int} (ha : I32 a) (hb : I32 b) :
    Calls Tryz.prog 60 #[.slice (some ⟨g, 0, none⟩) allP.length cap, .int .i64 a, .int .i64 b] w fun e w' => e = .returned (.int .i64 (rmk a b)) ∧ Below w.heap.size w w' := by
  have hll : allP.length ≤ 1000 := by decide
  have HJ := hid (rjoin_any a b w ha.1 ha.2 hb.1 hb.2)
  have HU := hid (fun (W : World) (hb : Below w.heap.size w W) => rup_any (cap := cap) (h.step hb) hll a b)
  have HE : Hid (rmk a b = if 0 ≤ rjI a b then rjI a b else rupP allP a b allP) := rfl
  clear h ha hb
  generalize rjI a b = j at *
  generalize rupP allP a b allP = u at *
  generalize allP.length = al at *
  by_cases hj : 0 ≤ j
  · have HR : Hid (rmk a b = j) := by show _ = _; rw [HE.out, if_pos hj]
    go_enter Tryz.func60, Tryz.ntmps60
    go_wp2_with (go_at_call 82; refine HJ.out.mono ?_; rintro e w1 ⟨rfl, hb1⟩)
    go_ret
    exact ⟨ret_int HR.out.symm, hb1⟩
  · have HR : Hid (rmk a b = u) := by show _ = _; rw [HE.out, if_neg hj]
    have hj2 : decide (0 ≤ j) = false := decide_eq_false hj
    go_enter Tryz.func60, Tryz.ntmps60
    go_wp2_with (first | (go_at_call 82; refine HJ.out.mono ?_; rintro e w1 ⟨rfl, hb1⟩; have HB1 := hid hb1; clear hb1) | (go_at_call 83; refine (HU.out w1 HB1.out).mono ?_; rintro e w2 ⟨rfl, hb2⟩))
    go_ret
    exact ⟨ret_int HR.out.symm, HB1.out.trans (hb2.mono HB1.out.size)⟩

theorem blq_take {w : World} {g cap : Nat} {L : List Int} {T : List Value} (h : Blq w g L T) (hc : L.length ≤ cap) (i : Nat) (hi : i ≤ L.length) : Sn .i64 w (.slice (some ⟨g, 0, none⟩) i cap) (L.take i) := by
  have hl : (L.take i).length = i := by rw [List.length_take]; omega
  refine ⟨_, cap, by rw [hl], by omega, fun e => (by cases e), fun j hj => ⟨g, 0, rfl, h.lt, ?_⟩⟩
  rw [Nat.zero_add, List.getElem_take]
  exact h.cell _ _ (List.getElem?_eq_getElem (by omega))
theorem blq_drop {w : World} {g : Nat} {L : List Int} {T : List Value} (h : Blq w g L T) (i n : Nat) (hn : n = L.length - i) (hi : i ≤ L.length) (cp : Nat) (hcp : n ≤ cp) : Sn .i64 w (.slice (some ⟨g, i, none⟩) n cp) (L.drop i) := by
  have hl : (L.drop i).length = n := by rw [List.length_drop, hn]
  refine ⟨_, cp, by rw [hl], by omega, fun e => (by cases e), fun j hj => ⟨g, i, rfl, h.lt, ?_⟩⟩
  rw [List.getElem_drop]
  exact h.cell _ _ (List.getElem?_eq_getElem (by omega))
theorem sn_nil (w : World) (ad : Addr) (cp : Nat) : Sn .i64 w (.slice (some ad) 0 cp) [] := ⟨ad, cp, rfl, Nat.zero_le _, fun e => (by cases e), fun j hj => (by simp at hj)⟩

theorem blq_slp {w : World} {g cap : Nat} {L : List Int} {T : List Value} (h : Blq w g L T) (hc : L.length ≤ cap) : SlP .i64 w (some ⟨g, 0, none⟩) cap L := ⟨hc, fun e => (by cases e), fun j hj => ⟨g, 0, rfl, h.lt, by rw [Nat.zero_add]; exact h.cell _ _ (List.getElem?_eq_getElem hj)⟩⟩
/-- What the reference's Compose holds. -/
structure RC (w1 : World) (s : CS) (R : List Int) (n : Nat) (v : Value) (W : World) : Prop where
  ok : Ok w1.heap.size w1 W
  st : okC s
  i32 : ∀ y ∈ outC s ++ R, I32 y
  len : (outC s ++ R).length = n
  at_ : ∃ g cap T, v = .slice (some ⟨g, 0, none⟩) n cap ∧ n ≤ cap ∧ w1.heap.size ≤ g ∧ Blq W g (outC s ++ R) T
theorem RC.step {w1 : World} {s : CS} {R : List Int} {n : Nat} {v : Value} {W W' : World} (h : RC w1 s R n v W) (hb : Below W.heap.size W W') : RC w1 s R n v W' := by
  obtain ⟨g, cap, T, e, h1, h2, h3⟩ := h.at_
  exact ⟨h.ok.step hb, h.st, h.i32, h.len, g, cap, T, e, h1, h2, h3.step hb⟩
theorem RC.next {w1 : World} {s : CS} {r : Int} {R : List Int} {n : Nat} {v : Value} {W : World} (h : RC w1 s (r :: R) n v W) (ht : tryC clsP s r = false) : RC w1 (stepC clsP s r) R n v W := by
  have e : outC (stepC clsP s r) ++ R = outC s ++ r :: R := by rw [outC_no clsP s r ht]; simp
  obtain ⟨g, cap, T, e1, h1, h2, h3⟩ := h.at_
  refine ⟨h.ok, okC_step r h.st, ?_, ?_, g, cap, T, e1, h1, h2, ?_⟩
  · rw [e]; exact h.i32
  · rw [e]; exact h.len
  · rw [e]; exact h3

theorem RC.join {w1 : World} {A M : List Int} {x r : Int} {R : List Int} {n : Nat} {v : Value} {W W5 W7 : World} (h : RC w1 (A, some x, M) (r :: R) n v W) (ht : tryC clsP (A, some x, M) r = true) (hb : Below W.heap.size W W5) (h7 : Below W5.heap.size W5 W7) {g7 cap7 m an : Nat} {T7 : List Value} (hm : m + 1 = n) (hc : m ≤ cap7) (hg : W5.heap.size ≤ g7) (hB : Blq W7 g7 ([] ++ (A ++ [x] ++ M) ++ R) T7) (han : A.length = an) (z : Int) (hz : mkI x r = z) :
    RC w1 (stepC clsP (A, some x, M) r) R m (.slice (some ⟨g7, 0, none⟩) m cap7) (W7.setCell ⟨g7, an, none⟩ (.int .i64 z)) := by
  subst hz
  subst han
  obtain ⟨y, e, hmk⟩ := try_some ht
  simp only [Option.some.injEq] at e
  subst e
  rw [step_join ht]
  have e2 : ([] ++ (A ++ [x] ++ M) ++ R).set A.length (mkI x r) = outC (A, some (mkI x r), M) ++ R := by simp [outC]
  have hl := h.len
  have hb7 : Below w1.heap.size w1 W7 := (h.ok.1.trans (hb.mono h.ok.2)).trans (h7.mono (Nat.le_trans h.ok.2 hb.size))
  refine ⟨⟨hb7.setCell (p := ⟨g7, A.length, none⟩) (Nat.le_trans (Nat.le_trans h.ok.2 hb.size) hg) _, by have := hb7.size; simpa [World.setCell] using this⟩, ?_, ?_, ?_, g7, cap7, T7, rfl, hc, Nat.le_trans (Nat.le_trans h.ok.2 hb.size) hg, ?_⟩
  · have := okC_step r h.st
    rwa [step_join ht] at this
  · intro y hy
    by_cases e : y = mkI x r
    · rw [e]; exact mk_I32 x r hmk
    · refine h.i32 y ?_
      simp [outC] at hy ⊢
      rcases hy with hy | hy | hy | hy
      · exact .inl hy
      · exact (e hy).elim
      · exact .inr (.inr (.inl hy))
      · exact .inr (.inr (.inr (.inr hy)))
  · simp [outC] at hl ⊢
    omega
  · rw [← e2]
    exact hB.set A.length (mkI x r) (by simp)

/-- A slice of ints in a block that was made behind a world. -/
def Sb (w0 w : World) (v : Value) (l : List Int) : Prop := ∃ g cap T, v = .slice (some ⟨g, 0, none⟩) l.length cap ∧ l.length ≤ cap ∧ w0.heap.size ≤ g ∧ Blq w g l T
theorem Sb.sn {w0 w : World} {v : Value} {l : List Int} (h : Sb w0 w v l) : Sn .i64 w v l := by
  obtain ⟨g, cap, T, rfl, hc, _, hB⟩ := h
  exact hB.sl cap hc
theorem Sb.old {w0 w1 w : World} {v : Value} {l : List Int} (h : Sb w1 w v l) (hs : w0.heap.size ≤ w1.heap.size) : Sb w0 w v l := by
  obtain ⟨g, cap, T, e, hc, hg, hB⟩ := h
  exact ⟨g, cap, T, e, hc, Nat.le_trans hs hg, hB⟩
set_option maxRecDepth 100000 in
set_option maxHeartbeats 8000000 in
theorem rcomposeB_any {w : World} {v : Value} {zs : List Int} (hS : Sn .i64 w v zs) (hz : ∀ z ∈ zs, I32 z) (hn : zs.length ≤ 1000000) :
    Calls Tryz.prog 48 #[v] w fun e w' => ∃ v', e = .returned v' ∧ Sb w w' v' (compP clsP zs) ∧ Below w.heap.size w w' := by
  have HS := hid hS
  obtain ⟨ad0, cap0, rfl, hS⟩ := hS
  have HZ := hid hz
  have H0 := hid (Ok.start w)
  have HAll := hid (rall_any w)
  have HMk := hid (fun (W : World) (g cap : Nat) (h : RR3 W g allP) (a b : Int) (ha : I32 a) (hb : I32 b) => rmakes_any (cap := cap) h ha hb)
  generalize hlen : zs.length = len at hn
  have HLn := hid hlen
  clear hS hlen hz
  rw [HLn.out] at HS
  go_enter Tryz.func48, Tryz.ntmps48
  go_wp2_with (first | (go_at_call 57; refine HAll.out.mono ?_; rintro e w1 ⟨va, rfl, h1, h2⟩; obtain ⟨g, gcap, rfl, hR⟩ := rr3_of_own h1 (by decide); have H1 := hid (And.intro hR (H0.out.step h2)); clear h1 h2 hR; have HO : Hid (Own w1.heap.size (w1.alloc (.cells #[] 3)) (.slice (some ⟨w1.heap.size, 0, none⟩) 0 0) []) := ⟨World.ownsRow_made w1 #[] 0 (Nat.le_refl _) (by unfold maxLen; omega) rfl, trivial⟩; have hok := hid ((Ok.start w1).alloc (o := .cells #[] 3))) | (at_builtin; refine app_row rfl (.tmp 11) (.tmp 12) rfl (w1.alloc (.cells #[] 3)) w1.heap.size (.slice (some ⟨w1.heap.size, 0, none⟩) 0 0) (.slice (some ad0) len cap0) [] zs rfl rfl HO.out ((HS.out.step H1.out.2.1).step ((Below.refl _ _).alloc (Nat.le_refl _) _)) (by have := HLn.out; simp; omega) hok.out.2 (fun v' w2 h3 h4 => ?_)))
  have HST : Hid (RC w1 ([], none, []) zs len v' w2) := by
    obtain ⟨g2, cap2, T2, e2, hc2, hg2, hB2⟩ := own_blq h3.1 h3.2
    exact ⟨ok_below h4 hok.out, ⟨fun m hm => by simp at hm, rfl⟩, HZ.out, HLn.out, g2, cap2, T2, by rw [e2]; simp [HLn.out], by have := HLn.out; have h5 := hc2; simp at h5; omega, hg2, hB2⟩
  clear h3 h4 HO hok HS
  generalize allP.length = al at *
  go_loopg [4, 5] len (fun gg vo vi wr => ∃ k : Nat, k ≤ len ∧ gg = len - k ∧ ∃ i n : Nat, vi = .int .i64 (i : Int) ∧ i ≤ k ∧ n = i + (len - k) ∧ Hid (∃ s : CS, s = (zs.take k).foldl (stepC clsP) ([], none, []) ∧ (outC s).length = i ∧ RC w1 s (zs.drop k) n vo wr))
  case atStart => exact ⟨0, Nat.zero_le _, rfl, 0, len, rfl, Nat.le_refl _, by omega, ([], none, []), by rw [List.take_zero]; rfl, rfl, by rw [List.drop_zero]; exact HST.out⟩
  case round =>
    obtain ⟨k, hk, hg, i, n, rfl, hik, hn2, H⟩ := hrel
    obtain ⟨s, hs, hi, hRC⟩ := H.out
    have HG := hid hg
    clear hg HST H
    by_cases hlt : k < len
    · have hlx : k < zs.length := by rw [HLn.out]; exact hlt
      have hdr : zs.drop k = zs[k] :: zs.drop (k + 1) := List.drop_eq_getElem_cons hlx
      have hfold : (zs.take (k + 1)).foldl (stepC clsP) ([], none, []) = stepC clsP s zs[k] := by
        rw [List.take_succ_eq_append_getElem hlx, List.foldl_append, ← hs]; rfl
      rw [hdr] at hRC
      have HFo := hid hfold
      have HR1 : Hid (zs.drop (k + 1) = zs.drop (k + 1)) := rfl
      generalize zs[k] = r at *
      generalize hR : zs.drop (k + 1) = R at *
      have HRd := hid hR
      clear hs hdr hfold hR HR1
      have hin : i < n := by omega
      have hnm : n ≤ 1000000 := by omega
      obtain ⟨gn, cap, T, rfl, hcap, hgl, hB⟩ := hRC.at_
      have hLs := hRC.len
      have HSp := hid (fun (W : World) (h : Below wr.heap.size wr W) => blq_slp (hB.step h) (cap := cap) (by omega))
      have HStart := hid (rstart_any hLs (HSp.out wr (Below.refl _ _)) hnm i (by omega))
      have e1 := start_at s hRC.st (r :: R)
      rw [hi] at e1
      rw [e1] at HStart
      have HRC := hid hRC
      have HI := hid hi
      have hI32r : Hid (I32 r) := hRC.i32 r (by simp)
      have HBl := hid (fun (W : World) (h : Below wr.heap.size wr W) => rblocked_any hLs (HSp.out W h) hnm i hin)
      have z1 : (i : Int) < (n : Int) := by omega
      have hi6 : i ≤ 1000000 := by omega
      have HN2 : Hid (n = i + (len - k) ∧ i ≤ k ∧ k < len ∧ w1.heap.size ≤ gn) := ⟨hn2, hik, hlt, hgl⟩
      clear e1 hn2 hik hk hgl hlx hlt
      obtain ⟨A, o, M⟩ := s
      cases o with
      | none =>
        have e2 : stI (A, none, M) = -1 := rfl
        rw [e2] at HStart
        have HT : Hid (tryC clsP (A, none, M) r = false) := rfl
        clear e2 hRC hB hLs hi HBl
        go_wp2_with fail
        refine HStart.out.mono ?_
        rintro e w3 ⟨rfl, hb3⟩
        have HN := hid ((HRC.out.step hb3).next HT.out)
        clear hb3
        go_wp2_with fail
        go_roundg (len - (k + 1))
        case measure => rw [HG.out]; have := HN2.out; omega
        case rel => exact ⟨k + 1, by have := HN2.out; omega, rfl, i + 1, n, by go_num, by have := HN2.out; omega, by have := HN2.out; omega, _, HFo.out.symm, by rw [outC_no clsP _ r HT.out, List.length_append, HI.out]; rfl, by rw [HRd.out]; exact HN.out⟩
      | some x =>
        have e2 : stI (A, some x, M) = (A.length : Int) := rfl
        rw [e2] at HStart
        have e3 := blocked_at A M x r hRC.st R
        rw [hi] at e3
        have hAi : A.length < i := by rw [← hi]; simp [outC]
        have hcx : Hid (∀ (W : World), Below wr.heap.size wr W → W.cell? ⟨gn, A.length, none⟩ = some (.int .i64 x) ∧ W.cell? ⟨gn, i, none⟩ = some (.int .i64 r)) := by
          refine hid (fun W h => ⟨(hB.step h).cell _ _ ?_, (hB.step h).cell _ _ ?_⟩)
          · simp [outC]
          · rw [← hi]; simp
        have hI32x : Hid (I32 x) := hRC.i32 x (by simp [outC])
        have HBq := hid hB
        have HLs := hid hLs
        have HTr : Hid (tryC clsP (A, some x, M) r = (!(decide (0 < gr clsP M) && decide (clsP r ≤ gr clsP M)) && mkB x r)) := rfl
        have HMe := hid (rmk_eq x r)
        have HMp : Hid (mkB x r = true → 0 ≤ mkI x r) := fun h => mk_pos h
        have HMi : Hid (mkB x r = true → I32 (mkI x r)) := fun h => mk_I32 x r h
        generalize hbl : (decide (0 < gr clsP M) && decide (clsP r ≤ gr clsP M)) = bl at *
        rw [e3] at HBl
        clear e2 e3 hRC hB hLs hi hbl
        generalize hAn : A.length = an at *
        have HAn := hid hAn
        clear hAn
        have z2 : (0 : Int) ≤ (an : Int) := by omega
        have z3 : (an : Int) < (n : Int) := by omega
        have HRR : Hid (∀ (W : World), Below wr.heap.size wr W → RR3 W g allP) := fun W h => H1.out.1.step (HRC.out.ok.1.trans (h.mono HRC.out.ok.2))
        cases bl with
        | true =>
          have HT : Hid (tryC clsP (A, some x, M) r = false) := by show _ = _; rw [HTr.out]; rfl
          clear HTr HMe HMp HMi
          go_wp2_with fail
          refine HStart.out.mono ?_
          rintro e w3 ⟨rfl, hb3⟩
          have HB3 := hid hb3
          clear hb3
          go_wp2_with fail
          refine (HBl.out w3 HB3.out).mono ?_
          rintro e w4 ⟨rfl, hb4⟩
          have HN := hid (((HRC.out.step HB3.out).step hb4).next HT.out)
          clear hb4
          go_wp2_with fail
          go_roundg (len - (k + 1))
          case measure => rw [HG.out]; have := HN2.out; omega
          case rel => exact ⟨k + 1, by have := HN2.out; omega, rfl, i + 1, n, by go_num, by have := HN2.out; omega, by have := HN2.out; omega, _, HFo.out.symm, by rw [outC_no clsP _ r HT.out, List.length_append, HI.out]; rfl, by rw [HRd.out]; exact HN.out⟩
        | false =>
          go_wp2_with fail
          refine HStart.out.mono ?_
          rintro e w3 ⟨rfl, hb3⟩
          have HB3 := hid hb3
          clear hb3
          go_wp2_with fail
          refine (HBl.out w3 HB3.out).mono ?_
          rintro e w4 ⟨rfl, hb4⟩
          have HB4 := hid (HB3.out.trans (hb4.mono HB3.out.size))
          clear hb4
          have HB4d : Hid (Below wr.heap.size wr w4.drew) := HB4.out.drew
          have HMk1 := hid (HMk.out w4.drew g gcap (HRR.out _ HB4d.out) x r hI32x.out hI32r.out)
          rw [HMe.out] at HMk1
          by_cases hm : mkB x r = true
          · rw [if_pos hm] at HMk1
            have HT : Hid (tryC clsP (A, some x, M) r = true) := by show _ = _; rw [HTr.out, hm]; rfl
            have hzp := HMp.out hm
            have HZi := hid (HMi.out hm)
            have HJ := hid (step_join HT.out)
            clear HTr HMe HMp HMi hm
            have HZe : Hid (∃ z, mkI x r = z) := ⟨_, rfl⟩
            generalize hze : mkI x r = z at *
            have HZ2 := hid hze
            clear hze HZe
            have hTk : Hid (∀ (W : World), Below wr.heap.size wr W → Sn .i64 W (.slice (some ⟨gn, 0, none⟩) i cap) (A ++ [x] ++ M)) := by
              refine hid (fun W h => ?_)
              have := blq_take ((HBq.out).step h) (cap := cap) (by rw [HLs.out]; exact hcap) i (by rw [HLs.out]; omega)
              rwa [show (outC (A, some x, M) ++ r :: R).take i = A ++ [x] ++ M by rw [← HI.out, List.take_left]; rfl] at this
            have hDp : Hid (∀ (W : World) (ad : Addr) (m cp : Nat), Below wr.heap.size wr W → m + i + 1 = n → m ≤ cp → (ad = ⟨gn, i + 1, none⟩ ∨ m = 0) → Sn .i64 W (.slice (some ad) m cp) R) := by
              refine hid (fun W ad m cp h hm hcp had => ?_)
              have e5 : (outC (A, some x, M) ++ r :: R).drop (i + 1) = R := by rw [← HI.out]; simp [List.drop_append]
              rcases had with rfl | rfl
              · have := blq_drop ((HBq.out).step h) (i + 1) m (by rw [HLs.out]; omega) (by rw [HLs.out]; omega) cp hcp
                rwa [e5] at this
              · have hR0 : R = [] := by
                  have h1 := HLs.out
                  have h2 := HI.out
                  rw [List.length_append, h2, List.length_cons] at h1
                  exact List.eq_nil_of_length_eq_zero (by omega)
                rw [hR0]; exact sn_nil W ad cp
            have q1 : (i : Int) ≤ (cap : Int) := by omega
            have q2 : (n : Int) ≤ (cap : Int) := by omega
            have q3 : (i : Int) + 1 ≤ (n : Int) := by omega
            have q4 : ((i : Int) + 1).toNat = i + 1 := by omega
            have q6 : (0 : Int) ≤ (i : Int) + 1 := by omega
            have q7 : i + 1 ≤ n := by omega
            obtain ⟨m, hm1⟩ : ∃ m, ([] ++ (A ++ [x] ++ M) ++ R).length = m := ⟨_, rfl⟩
            have HLm := hid hm1
            have HLm2 : Hid (m + 1 = n) := by
              show _ = _
              have h1 := HLs.out
              rw [← hm1]
              simp [outC] at h1 ⊢
              omega
            have HLe1 : Hid (([] : List Int).length + (A ++ [x] ++ M).length ≤ 1000000000) := by
              show _ ≤ _
              have h1 := HI.out
              simp [outC] at h1 ⊢
              omega
            have HLe2 : Hid (([] ++ (A ++ [x] ++ M)).length + R.length ≤ 1000000000) := by
              show _ ≤ _
              have h1 := hm1
              have h2 := HLm2.out
              simp at h1 ⊢
              omega
            have HCx : Hid (([] ++ (A ++ [x] ++ M) ++ R)[an]? = some x) := by
              show _ = _
              rw [← HAn.out]; simp
            have zm : (an : Int) < (m : Int) := by have := HLm2.out; omega
            clear hm1
            by_cases q5 : cap = i + 1
            · have q5' : i + 1 = n := by omega
              have hcn : n = cap := by omega
              subst hcn
              rw [q5'] at q4
              clear q5
              have q8 : ¬ n = 0 := by omega
              go_wp2_with fail
              go_region_held3 (fun w' => w'.cell? ⟨gn, an, none⟩ = some (.int .i64 x) ∧ w'.cell? ⟨gn, i, none⟩ = some (.int .i64 r))
                (first | exact hcx.out _ HB4.out | exact hcx.out _ HB4d.out | exact hcx.out _ HB5.out)
                (first | (go_at_call 60; refine HMk1.out.mono ?_; rintro e w5 ⟨rfl, hb5⟩; have HB5 := hid (HB4d.out.trans (hb5.mono HB4d.out.size)); clear hb5))
              have HO6 : Hid (Own w5.heap.size (w5.alloc (.cells #[] 3)) (.slice (some ⟨w5.heap.size, 0, none⟩) 0 0) [] ∧ Below wr.heap.size wr (w5.alloc (.cells #[] 3)) ∧ Below w5.heap.size w5 (w5.alloc (.cells #[] 3))) := ⟨⟨World.ownsRow_made w5 #[] 0 (Nat.le_refl _) (by unfold maxLen; omega) rfl, trivial⟩, HB5.out.trans (((Below.refl w5.heap.size w5).alloc (Nat.le_refl _) _).mono HB5.out.size), (Below.refl w5.heap.size w5).alloc (Nat.le_refl _) _⟩
              go_wp2_with (first | (at_builtin; refine app_row rfl (.tmp 42) (.tmp 45) rfl (w5.alloc (.cells #[] 3)) w5.heap.size (.slice (some ⟨w5.heap.size, 0, none⟩) 0 0) (.slice (some ⟨gn, 0, none⟩) i n) [] (A ++ [x] ++ M) rfl rfl HO6.out.1 (hTk.out _ HO6.out.2.1) HLe1.out (by simp) (fun v6 w6 h5 h6 => ?_); have HO7 : Hid (Own w5.heap.size w6 v6 ([] ++ (A ++ [x] ++ M)) ∧ Below w5.heap.size w5 w6) := ⟨h5, HO6.out.2.2.trans h6⟩; clear h5 h6) | (at_builtin; refine app_row rfl (.tmp 47) (.tmp 51) rfl w6 w5.heap.size v6 (.slice (some ⟨gn, 0, none⟩) 0 0) ([] ++ (A ++ [x] ++ M)) R rfl rfl HO7.out.1 (hDp.out _ _ _ _ (HB5.out.trans (HO7.out.2.mono HB5.out.size)) (by omega) (by omega) (.inr rfl)) HLe2.out HO7.out.2.size (fun v7 w7 h5 h6 => ?_); obtain ⟨g7, cap7, T7, e7, hc7, hg7, hB7⟩ := own_blq h5.1 h5.2; rw [HLm.out] at e7 hc7; subst e7; have HO8 : Hid (Blq w7 g7 ([] ++ (A ++ [x] ++ M) ++ R) T7 ∧ Below w5.heap.size w5 w7 ∧ w5.heap.size ≤ g7 ∧ m ≤ cap7) := ⟨hB7, HO7.out.2.trans h6, hg7, hc7⟩; have fr7 := fun k => hB7.frozen k; have cl7 := hB7.cell an x HCx.out; clear h5 h6 hB7 hg7 hc7))
              have HN := hid (HRC.out.join HT.out HB5.out HO8.out.2.1 HLm2.out HO8.out.2.2.2 HO8.out.2.2.1 HO8.out.1 HAn.out z HZ2.out)
              go_roundg (len - (k + 1))
              case measure => rw [HG.out]; have := HN2.out; omega
              case rel => exact ⟨k + 1, by have := HN2.out; omega, rfl, i, m, rfl, by have := HN2.out; omega, by have := HN2.out; have := HLm2.out; omega, _, HFo.out.symm, by rw [HJ.out, ← HI.out]; simp [outC], by rw [HRd.out]; exact HN.out⟩
            · have q8 : ¬ cap = 0 := by omega
              go_wp2_with fail
              go_region_held3 (fun w' => w'.cell? ⟨gn, an, none⟩ = some (.int .i64 x) ∧ w'.cell? ⟨gn, i, none⟩ = some (.int .i64 r))
                (first | exact hcx.out _ HB4.out | exact hcx.out _ HB4d.out | exact hcx.out _ HB5.out)
                (first | (go_at_call 60; refine HMk1.out.mono ?_; rintro e w5 ⟨rfl, hb5⟩; have HB5 := hid (HB4d.out.trans (hb5.mono HB4d.out.size)); clear hb5))
              have HO6 : Hid (Own w5.heap.size (w5.alloc (.cells #[] 3)) (.slice (some ⟨w5.heap.size, 0, none⟩) 0 0) [] ∧ Below wr.heap.size wr (w5.alloc (.cells #[] 3)) ∧ Below w5.heap.size w5 (w5.alloc (.cells #[] 3))) := ⟨⟨World.ownsRow_made w5 #[] 0 (Nat.le_refl _) (by unfold maxLen; omega) rfl, trivial⟩, HB5.out.trans (((Below.refl w5.heap.size w5).alloc (Nat.le_refl _) _).mono HB5.out.size), (Below.refl w5.heap.size w5).alloc (Nat.le_refl _) _⟩
              go_wp2_with (first | (at_builtin; refine app_row rfl (.tmp 42) (.tmp 45) rfl (w5.alloc (.cells #[] 3)) w5.heap.size (.slice (some ⟨w5.heap.size, 0, none⟩) 0 0) (.slice (some ⟨gn, 0, none⟩) i cap) [] (A ++ [x] ++ M) rfl rfl HO6.out.1 (hTk.out _ HO6.out.2.1) HLe1.out (by simp) (fun v6 w6 h5 h6 => ?_); have HO7 : Hid (Own w5.heap.size w6 v6 ([] ++ (A ++ [x] ++ M)) ∧ Below w5.heap.size w5 w6) := ⟨h5, HO6.out.2.2.trans h6⟩; clear h5 h6) | (at_builtin; refine app_row rfl (.tmp 47) (.tmp 51) rfl w6 w5.heap.size v6 (.slice (some ⟨gn, i + 1, none⟩) (n - (i + 1)) (cap - (i + 1))) ([] ++ (A ++ [x] ++ M)) R rfl rfl HO7.out.1 (hDp.out _ _ _ _ (HB5.out.trans (HO7.out.2.mono HB5.out.size)) (by omega) (by omega) (.inl rfl)) HLe2.out HO7.out.2.size (fun v7 w7 h5 h6 => ?_); obtain ⟨g7, cap7, T7, e7, hc7, hg7, hB7⟩ := own_blq h5.1 h5.2; rw [HLm.out] at e7 hc7; subst e7; have HO8 : Hid (Blq w7 g7 ([] ++ (A ++ [x] ++ M) ++ R) T7 ∧ Below w5.heap.size w5 w7 ∧ w5.heap.size ≤ g7 ∧ m ≤ cap7) := ⟨hB7, HO7.out.2.trans h6, hg7, hc7⟩; have fr7 := fun k => hB7.frozen k; have cl7 := hB7.cell an x HCx.out; clear h5 h6 hB7 hg7 hc7))
              have HN := hid (HRC.out.join HT.out HB5.out HO8.out.2.1 HLm2.out HO8.out.2.2.2 HO8.out.2.2.1 HO8.out.1 HAn.out z HZ2.out)
              go_roundg (len - (k + 1))
              case measure => rw [HG.out]; have := HN2.out; omega
              case rel => exact ⟨k + 1, by have := HN2.out; omega, rfl, i, m, rfl, by have := HN2.out; omega, by have := HN2.out; have := HLm2.out; omega, _, HFo.out.symm, by rw [HJ.out, ← HI.out]; simp [outC], by rw [HRd.out]; exact HN.out⟩
          · rw [if_neg hm] at HMk1
            have HT : Hid (tryC clsP (A, some x, M) r = false) := by show _ = _; rw [HTr.out]; simpa using hm
            clear HTr HMe HMp HMi hm
            go_wp2_with fail
            go_region_held3 (fun w' => w'.cell? ⟨gn, an, none⟩ = some (.int .i64 x) ∧ w'.cell? ⟨gn, i, none⟩ = some (.int .i64 r))
              (first | exact hcx.out _ HB4.out | exact hcx.out _ HB4d.out | exact hcx.out _ HB5.out)
              (first | (go_at_call 60; refine HMk1.out.mono ?_; rintro e w5 ⟨rfl, hb5⟩; have HB5 := hid (HB4d.out.trans (hb5.mono HB4d.out.size)); clear hb5))
            have HN := hid ((HRC.out.step HB5.out).next HT.out)
            go_wp2_with fail
            go_roundg (len - (k + 1))
            case measure => rw [HG.out]; have := HN2.out; omega
            case rel => exact ⟨k + 1, by have := HN2.out; omega, rfl, i + 1, n, by go_num, by have := HN2.out; omega, by have := HN2.out; omega, _, HFo.out.symm, by rw [outC_no clsP _ r HT.out, List.length_append, HI.out]; rfl, by rw [HRd.out]; exact HN.out⟩
    · have e : k = len := by omega
      subst e
      have HF : Hid (compP clsP zs = outC s) := by
        show outC _ = _
        rw [hs, ← HLn.out, List.take_length]
      have hd0 : zs.drop k = [] := by rw [← HLn.out, List.drop_length]
      rw [hd0] at hRC
      obtain ⟨gn, cap, T, rfl, hcap, hgl, hB⟩ := hRC.at_
      have HRC := hid hRC
      have hLs := hRC.len
      have HBq := hid hB
      rw [List.append_nil] at hLs HBq
      have HL2 := hid hLs
      have hni : n = i := by omega
      subst hni
      have HGl := hid hgl
      clear hRC hB hs hi hd0 hn2 hik hk hlt hgl
      have z1 : ¬ (n : Int) < (n : Int) := by omega
      go_wp2_with fail
      go_ret
      exact ⟨_, rfl, by rw [HF.out]; exact ⟨gn, cap, T, by rw [HL2.out]; rfl, by rw [HL2.out]; exact hcap, Nat.le_trans H1.out.2.1.size HGl.out, HBq.out⟩, H1.out.2.1.trans (HRC.out.ok.1.mono H1.out.2.1.size)⟩
theorem rcompose_any {w : World} {v : Value} {zs : List Int} (hS : Sn .i64 w v zs) (hz : ∀ z ∈ zs, I32 z) (hn : zs.length ≤ 1000000) :
    Calls Tryz.prog 48 #[v] w fun e w' => ∃ v', e = .returned v' ∧ Sn .i64 w' v' (compP clsP zs) ∧ Below w.heap.size w w' :=
  (rcomposeB_any hS hz hn).mono fun _ _ ⟨v', h1, h2, h3⟩ => ⟨v', h1, h2.sn, h3⟩
end Nf
end Go.Proofs.YtemdmalcoemhnabGreat

namespace Go.Proofs.YtemdmalcoemhnabGreat
namespace Nf
open Go.RowKit Od Pr Ha

set_option maxRecDepth 100000 in
set_option maxHeartbeats 2000000 in
theorem rnfcB_any {w : World} {v : Value} {zs : List Int} (hS : Sn .i64 w v zs) (hz : ∀ z ∈ zs, I32 z) (hn : zs.length ≤ 10000) :
    Calls Tryz.prog 27 #[v] w fun e w' => ∃ v', e = .returned v' ∧ Sb w w' v' (nfcP clsP zs) ∧ Below w.heap.size w w' := by
  have HN := hid (rnfd_any hS hn)
  have HC := hid (fun (w1 : World) (v1 : Value) (h1 : Sn .i64 w1 v1 (nfdP clsP zs)) => rcomposeB_any h1 (nfd_I32 clsP zs hz) (Nat.le_trans (nfd_len zs) (by omega)))
  clear hS hz hn
  go_enter Tryz.func27, Tryz.ntmps27
  go_wp2_with fail
  refine HN.out.mono ?_
  rintro e w1 ⟨v1, rfl, h1, h2⟩
  have H1 := hid (And.intro h1 h2)
  clear h1 h2
  go_wp2_with fail
  refine (HC.out w1 v1 H1.out.1).mono ?_
  rintro e w2 ⟨v2, rfl, h1, h2⟩
  have H2 := hid (And.intro h1 h2)
  clear h1 h2
  go_wp2_with fail
  go_ret
  exact ⟨_, rfl, H2.out.1.old H1.out.2.size, H1.out.2.trans (H2.out.2.mono H1.out.2.size)⟩
theorem rnfc_any {w : World} {v : Value} {zs : List Int} (hS : Sn .i64 w v zs) (hz : ∀ z ∈ zs, I32 z) (hn : zs.length ≤ 10000) :
    Calls Tryz.prog 27 #[v] w fun e w' => ∃ v', e = .returned v' ∧ Sn .i64 w' v' (nfcP clsP zs) ∧ Below w.heap.size w w' :=
  (rnfcB_any hS hz hn).mono fun _ _ ⟨v', h1, h2, h3⟩ => ⟨v', h1, h2.sn, h3⟩
end Nf
end Go.Proofs.YtemdmalcoemhnabGreat
