import Derived.Test.YtbamhbfncddieaaNfc0
namespace Go.Proofs.Ytbamhbfncddieaa
namespace Nf
open Od Pr Ha

theorem ok5 (r : Int) : okF 5 r = true := by
  by_cases h : ∃ x ∈ allP, x.1 = r
  · obtain ⟨x, hx, rfl⟩ := h
    exact List.all_eq_true.1 rows_ok x hx
  · have e := dn_out r (fun x hx e => h ⟨x, hx, e⟩)
    simp only [okF]
    rw [e]
    simp
/-- Taken apart. -/
theorem ap_eq (r : Int) : apP r = if sylB r = true then sylL r else if (dnP r).2.2 = 1 then apP (dnP r).1 else if (dnP r).2.2 = 2 then apP (dnP r).1 ++ apP (dnP r).2.1 else [r] := by
  have e : ∀ x, apF 5 x = apP x := fun x => (apF_succ 5 x (ok5 x)).symm
  show (if sylB r = true then sylL r else if (dnP r).2.2 = 1 then apF 5 (dnP r).1 else if (dnP r).2.2 = 2 then apF 5 (dnP r).1 ++ apF 5 (dnP r).2.1 else [r]) = _
  rw [e, e]
theorem dn_d (r : Int) : d1 r = (dnP r).1 ∧ d2 r = (dnP r).2.1 ∧ d3 r = (dnP r).2.2 := by
  unfold d1 d2 d3 dnP
  rw [rd_dn]
  exact ⟨rfl, rfl, rfl⟩
theorem ap_plain (r : Int) (h1 : sylB r = false) (h2 : ∀ x ∈ allP, x.1 ≠ r) : apP r = [r] := by
  rw [ap_eq, if_neg (by rw [h1]; decide), dn_out r h2]
  rfl
theorem far (r : Int) (h : 4352 ≤ r ∧ r ≤ 4546) : ∀ x ∈ allP, x.1 ≠ r := by
  intro x hx e
  have := List.all_eq_true.1 rows_far x hx
  rw [Bool.and_eq_true, Bool.not_eq_true', Bool.and_eq_false_iff, decide_eq_false_iff_not, decide_eq_false_iff_not] at this
  omega
theorem jamo (r : Int) (h : 4352 ≤ r ∧ r ≤ 4546) : apP r = [r] := ap_plain r (decide_eq_false (by omega)) (far r h)
theorem syl_row (x : R3) (hx : x ∈ allP) : sylB x.1 = false := by
  have := List.all_eq_true.1 rows_far x hx
  rw [Bool.and_eq_true, Bool.not_eq_true'] at this
  simpa using this.2
theorem syl_bd {r : Int} (h : sylB r = true) : 44032 ≤ r ∧ r ≤ 55203 := by
  have := of_decide_eq_true h
  omega
theorem sylL_bd {r : Int} (h : sylB r = true) : ∀ y ∈ sylL r, 4352 ≤ y ∧ y ≤ 4546 := by
  have hb := syl_bd h
  have h1 := led_bd r hb
  have h2 := vow_bd r
  have h3 := tal_bd r
  intro y hy
  unfold sylL at hy
  split at hy
  · simp at hy; omega
  · rename_i h4
    have h5 : 4352 ≤ talI r := by
      unfold talI at h4 ⊢
      split at h4
      · rw [if_pos ‹_›]; omega
      · exact absurd rfl h4
    simp at hy
    omega
/-- What is taken apart can't be taken apart any more. -/
theorem ap_atoms (r : Int) : ∀ y ∈ apP r, apP y = [y] := by
  intro y hy
  by_cases h1 : sylB r = true
  · rw [ap_eq, if_pos h1] at hy
    exact jamo y (sylL_bd h1 y hy)
  · by_cases h : ∃ x ∈ allP, x.1 = r
    · obtain ⟨x, hx, rfl⟩ := h
      have := List.all_eq_true.1 (List.all_eq_true.1 rows_atoms x hx) y hy
      show apF 6 y = [y]
      simpa using this
    · have e := ap_plain r (by simpa using h1) (fun x hx e => h ⟨x, hx, e⟩)
      rw [e] at hy
      simp at hy
      subst hy
      exact e
end Nf
end Go.Proofs.Ytbamhbfncddieaa

namespace Go.Proofs.Ytbamhbfncddieaa
namespace Nf
open Od Pr Ha

/-- What two make: a pair's, or a syllable. -/
def mkB (a b : Int) : Bool := u2 a b || lvB a b || otB a b
def mkI (a b : Int) : Int := if u2 a b = true then u1 a b else if lvB a b = true then lvI a b else otI a b

theorem lv_parts (a b : Int) (h : lvB a b = true) : sylB (lvI a b) = true ∧ ledI (lvI a b) = a ∧ vowI (lvI a b) = b ∧ talI (lvI a b) = 0 ∧ (4352 ≤ a ∧ a ≤ 4370) ∧ (4449 ≤ b ∧ b ≤ 4469) := by
  unfold lvB witB at h
  rw [Bool.and_eq_true, decide_eq_true_eq, decide_eq_true_eq] at h
  refine ⟨decide_eq_true ?_, ?_, ?_, ?_, by omega, by omega⟩
  · unfold lvI; omega
  · unfold ledI lvI; omega
  · unfold vowI lvI; omega
  · unfold talI lvI
    rw [if_neg (by omega)]
theorem ot_parts (a b : Int) (h : otB a b = true) : sylB a = true ∧ talI a = 0 ∧ sylB (otI a b) = true ∧ ledI (otI a b) = ledI a ∧ vowI (otI a b) = vowI a ∧ talI (otI a b) = b ∧ (4520 ≤ b ∧ b ≤ 4546) := by
  unfold otB opnB witB at h
  rw [Bool.and_eq_true, Bool.and_eq_true, decide_eq_true_eq, decide_eq_true_eq] at h
  obtain ⟨⟨h1, h2⟩, h3⟩ := h
  have hb := syl_bd h1
  refine ⟨h1, ?_, decide_eq_true ?_, ?_, ?_, ?_, by omega⟩
  · unfold talI; rw [if_neg (by omega)]
  · unfold otI; omega
  · unfold ledI otI; omega
  · unfold vowI otI; omega
  · unfold talI otI
    rw [if_pos (by omega)]; omega
/-- What two make is taken apart into what they are. -/
theorem mk_ap (a b : Int) (h : mkB a b = true) : apP (mkI a b) = apP a ++ apP b := by
  unfold mkB at h
  unfold mkI
  by_cases h1 : u2 a b = true
  · rw [if_pos h1]
    obtain ⟨e3, e1, e2, _⟩ := bk2 a b h1
    obtain ⟨f1, f2, f3⟩ := dn_d (u1 a b)
    have hs : sylB (u1 a b) = false := by
      unfold u2 at h1
      unfold u1
      cases hu : upF allP (a, b) with
      | none => rw [hu] at h1; cases h1
      | some z =>
        obtain ⟨R, hR, _, _, rfl⟩ := up_mem allP _ z hu
        exact syl_row R hR
    rw [ap_eq, if_neg (by rw [hs]; decide), ← f3, e3, if_neg (by decide), if_pos rfl, ← f1, ← f2, e1, e2]
  · rw [if_neg h1]
    have h1' : u2 a b = false := by simpa using h1
    by_cases h2 : lvB a b = true
    · rw [if_pos h2]
      obtain ⟨e1, e2, e3, e4, e5, e6⟩ := lv_parts a b h2
      rw [ap_eq, if_pos e1, sylL, if_pos e4, e2, e3, jamo a (by omega), jamo b (by omega)]
      rfl
    · have h2' : lvB a b = false := by simpa using h2
      have h3 : otB a b = true := by rw [h1', h2'] at h; simpa using h
      rw [if_neg h2]
      obtain ⟨e1, e2, e3, e4, e5, e6, e7⟩ := ot_parts a b h3
      rw [ap_eq (otI a b), if_pos e3, sylL, e4, e5, e6, if_neg (by omega), jamo b (by omega), ap_eq a, if_pos e1, sylL, if_pos e2]
      rfl

section
variable (c : Int → Int)
/-- The form that is taken apart. -/
def nfdP (l : List Int) : List Int := srt c (l.flatMap apP)
/-- The greatest class. -/
def gr (M : List Int) : Int := M.foldl (fun g r => if g < c r then c r else g) 0
theorem gr_snoc (M : List Int) (r : Int) : gr c (M ++ [r]) = if gr c M < c r then c r else gr c M := by unfold gr; rw [List.foldl_append]; rfl
theorem gr_ge : ∀ (M : List Int) (g0 : Int), g0 ≤ M.foldl (fun g r => if g < c r then c r else g) g0 ∧ ∀ m ∈ M, c m ≤ M.foldl (fun g r => if g < c r then c r else g) g0
  | [], g0 => ⟨Int.le_refl _, fun m hm => by simp at hm⟩
  | x :: M, g0 => by
    have h := gr_ge M (if g0 < c x then c x else g0)
    simp only [List.foldl_cons]
    refine ⟨?_, fun m hm => ?_⟩
    · have := h.1
      split at this <;> split <;> omega
    · rcases List.mem_cons.1 hm with rfl | hm
      · have := h.1
        split at this <;> split <;> omega
      · exact h.2 m hm
/-- A state of putting together: what stands ahead of the starter, the starter, what stands behind it. -/
abbrev CS := List Int × Option Int × List Int
def outC (s : CS) : List Int := s.1 ++ s.2.1.toList ++ s.2.2
def tryC (s : CS) (r : Int) : Bool := match s.2.1 with
  | none => false
  | some x => !(decide (0 < gr c s.2.2) && decide (c r ≤ gr c s.2.2)) && mkB x r
def stepC (s : CS) (r : Int) : CS :=
  if tryC c s r = true then (s.1, s.2.1.map (fun x => mkI x r), s.2.2) else if c r = 0 then (outC s, some r, []) else (s.1, s.2.1, s.2.2 ++ [r])
def compP (l : List Int) : List Int := outC (l.foldl (stepC c) ([], none, []))
def nfcP (l : List Int) : List Int := compP c (nfdP c l)

theorem outC_no (s : CS) (r : Int) (h : tryC c s r = false) : outC (stepC c s r) = outC s ++ [r] := by
  unfold stepC
  rw [h]
  simp only [Bool.false_eq_true, if_false]
  split
  · simp [outC]
  · simp [outC]

/-- What putting together keeps. -/
theorem comp_keeps (hc : ∀ x, 0 ≤ c x) (D : List Int) : ∀ (rest : List Int) (s : CS), (∀ x ∈ rest, apP x = [x]) → (∀ m ∈ s.2.2, apP m = [m] ∧ 0 < c m) → srt c ((outC s).flatMap apP ++ rest) = srt c D → srt c ((outC (rest.foldl (stepC c) s)).flatMap apP) = srt c D
  | [], s, _, _, h => by simpa using h
  | r :: rest, s, ha, hm, h => by
    have har := ha r (by simp)
    rw [List.foldl_cons]
    refine comp_keeps hc D rest (stepC c s r) (fun x hx => ha x (by simp [hx])) ?_ ?_
    · unfold stepC
      split
      · exact hm
      · split
        · intro m hm'; simp at hm'
        · rename_i h0
          intro m hm'
          rcases List.mem_append.1 hm' with hm' | hm'
          · exact hm m hm'
          · simp at hm'
            subst hm'
            have := hc m
            exact ⟨har, by omega⟩
    · rw [← h]
      by_cases ht : tryC c s r = true
      · obtain ⟨A, so, M⟩ := s
        cases so with
        | none => cases ht
        | some x =>
          unfold tryC at ht
          simp only at ht hm
          rw [Bool.and_eq_true, Bool.not_eq_true', Bool.and_eq_false_iff, decide_eq_false_iff_not, decide_eq_false_iff_not] at ht
          obtain ⟨hb, hmk⟩ := ht
          have hMr : ∀ m ∈ M, c m < c r := by
            intro m hm'
            have h1 := (gr_ge c M 0).2 m hm'
            have h2 := (hm m hm').2
            have h3 : gr c M = M.foldl (fun g r => if g < c r then c r else g) 0 := rfl
            rw [← h3] at h1
            rcases hb with hb | hb <;> omega
          have hMf : M.flatMap apP = M := by
            clear h hMr hb
            induction M with
            | nil => rfl
            | cons m M ih =>
              rw [List.flatMap_cons, (hm m (by simp)).1, ih (fun x hx => hm x (by simp [hx]))]
              rfl
          have e1 : (outC (stepC c (A, some x, M) r)).flatMap apP ++ rest = (A.flatMap apP ++ apP x) ++ ([r] ++ M) ++ rest := by
            have ht' : tryC c (A, some x, M) r = true := by
              unfold tryC
              simp only
              rw [Bool.and_eq_true, Bool.not_eq_true', Bool.and_eq_false_iff, decide_eq_false_iff_not, decide_eq_false_iff_not]
              exact ⟨hb, hmk⟩
            unfold stepC
            rw [if_pos ht']
            simp only [outC, Option.map_some, Option.toList_some, List.flatMap_append, List.flatMap_cons, List.flatMap_nil, List.append_nil]
            rw [mk_ap x r hmk, har, hMf]
            simp
          have e2 : (outC (A, some x, M)).flatMap apP ++ r :: rest = (A.flatMap apP ++ apP x) ++ (M ++ [r]) ++ rest := by
            simp only [outC, Option.toList_some, List.flatMap_append, List.flatMap_cons, List.flatMap_nil, List.append_nil]
            rw [hMf]
            simp
          rw [e1, e2]
          have hsw := (sw_blocks c M [r] (fun y hy => (hm y hy).2) (fun x hx y hy => by simp at hx; subst hx; exact hMr y hy)).ctx (A.flatMap apP ++ apP x) rest
          exact hsw.srt_eq.symm
      · rw [outC_no c s r (by simpa using ht), List.flatMap_append]
        simp [har]

theorem flat_atoms : ∀ (l : List Int), (∀ x ∈ l, apP x = [x]) → l.flatMap apP = l
  | [], _ => rfl
  | x :: l, h => by rw [List.flatMap_cons, h x (by simp), flat_atoms l (fun y hy => h y (by simp [hy]))]; rfl
theorem nfd_atoms (l : List Int) : ∀ x ∈ nfdP c l, apP x = [x] := by
  intro x hx
  have h1 := (sw_srt c (l.flatMap apP)).perm.mem_iff.2 hx
  obtain ⟨r, _, hr⟩ := List.mem_flatMap.1 h1
  exact ap_atoms r x hr
theorem nfd_nfd (l : List Int) : nfdP c (nfdP c l) = nfdP c l := by
  show srt c ((nfdP c l).flatMap apP) = _
  rw [flat_atoms _ (nfd_atoms c l)]
  exact srt_twice c _
theorem nfd_nfc (hc : ∀ x, 0 ≤ c x) (l : List Int) : nfdP c (nfcP c l) = nfdP c l := by
  have h := comp_keeps c hc (nfdP c l) (nfdP c l) ([], none, []) (nfd_atoms c l) (fun m hm => by simp at hm) (by simp [outC])
  show srt c ((compP c (nfdP c l)).flatMap apP) = _
  unfold compP
  rw [h]
  exact srt_twice c _
theorem nfc_nfd (l : List Int) : nfcP c (nfdP c l) = nfcP c l := by unfold nfcP; rw [nfd_nfd]
theorem nfc_nfc (hc : ∀ x, 0 ≤ c x) (l : List Int) : nfcP c (nfcP c l) = nfcP c l := by
  show compP c (nfdP c (nfcP c l)) = _
  rw [nfd_nfc c hc]
  rfl
/-- Two are canonically the same just if their NFC is. -/
theorem nfc_same (hc : ∀ x, 0 ≤ c x) (a b : List Int) : nfdP c a = nfdP c b ↔ nfcP c a = nfcP c b := by
  constructor
  · intro h; unfold nfcP; rw [h]
  · intro h; rw [← nfd_nfc c hc a, ← nfd_nfc c hc b, h]
end
end Nf
end Go.Proofs.Ytbamhbfncddieaa
