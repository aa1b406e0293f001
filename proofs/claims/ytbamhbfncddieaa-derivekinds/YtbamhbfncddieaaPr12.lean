import Derived.Test.YtbamhbfncddieaaPr11
namespace Go.Proofs.Ytbamhbfncddieaa.Pr
open Go.RowKit Go.Lib

theorem dist_snoc : ∀ (M : List R3) (y : R3), distB (M ++ [y]) = true → distB M = true ∧ ∀ m ∈ M, m.1 ≠ y.1
  | [], y, _ => ⟨rfl, fun m hm => by simp at hm⟩
  | x :: M, y, h => by
    simp only [List.cons_append, distB, Bool.and_eq_true] at h
    have ih := dist_snoc M y h.2
    have ha := List.all_eq_true.1 h.1
    refine ⟨?_, fun m hm => ?_⟩
    · simp only [distB, Bool.and_eq_true]
      exact ⟨List.all_eq_true.2 (fun z hz => ha z (by simp [hz])), ih.1⟩
    · rcases List.mem_cons.1 hm with rfl | hm
      · have := ha y (by simp)
        intro e
        simp [e] at this
      · exact ih.2 m hm

theorem dn_of_mem (L : List R3) : distB L = true → ∀ x ∈ L, dnF L x.1 = some (valP x) := by
  refine snoc_ind (P := fun L => distB L = true → ∀ x ∈ L, dnF L x.1 = some (valP x)) (fun _ x hx => by simp at hx) (fun M y ih hd x hx => ?_) L
  have h := dist_snoc M y hd
  rw [dn_snoc]
  show (if x.1 = y.1 then some (valP y) else dnF M x.1) = _
  rcases List.mem_append.1 hx with hm | hm
  · rw [if_neg (h.2 x hm)]; exact ih h.1 x hm
  · simp at hm; subst hm; rw [if_pos rfl]
theorem dn_mem (L : List R3) (r : Int) (v : Pt) : dnF L r = some v → ∃ x ∈ L, x.1 = r ∧ v = valP x := by
  refine snoc_ind (P := fun L => dnF L r = some v → ∃ x ∈ L, x.1 = r ∧ v = valP x) (fun h => by simp [dnF] at h) (fun M y ih h => ?_) L
  rw [dn_snoc] at h
  have h' : (if r = y.1 then some (valP y) else dnF M r) = some v := h
  split at h'
  · rename_i e
    exact ⟨y, by simp, e.symm, (Option.some.inj h').symm⟩
  · obtain ⟨x, hx, h1, h2⟩ := ih h'
    exact ⟨x, by simp [hx], h1, h2⟩

/-- No two rows that are put together have the same two. -/
def udistB : List R3 → Bool
  | [] => true
  | x :: l => (skipB x || l.all (fun y => skipB y || !(y.2.1 == x.2.1 && y.2.2 == x.2.2))) && udistB l
set_option maxRecDepth 1000000 in
theorem all_udist : udistB allP = true := by kernel_rfl
theorem udist_snoc : ∀ (M : List R3) (y : R3), udistB (M ++ [y]) = true → udistB M = true ∧ (skipB y = false → ∀ m ∈ M, skipB m = false → ¬ (m.2.1 = y.2.1 ∧ m.2.2 = y.2.2))
  | [], y, _ => ⟨rfl, fun _ m hm => by simp at hm⟩
  | x :: M, y, h => by
    simp only [List.cons_append, udistB, Bool.and_eq_true] at h
    have ih := udist_snoc M y h.2
    refine ⟨?_, fun hy m hm hs => ?_⟩
    · simp only [udistB, Bool.and_eq_true]
      refine ⟨?_, ih.1⟩
      rcases Bool.or_eq_true_iff.1 h.1 with h1 | h1
      · rw [h1]; rfl
      · rw [Bool.or_eq_true]
        exact .inr (List.all_eq_true.2 (fun z hz => List.all_eq_true.1 h1 z (by simp [hz])))
    · rcases List.mem_cons.1 hm with rfl | hm
      · rcases Bool.or_eq_true_iff.1 h.1 with h1 | h1
        · rw [hs] at h1; cases h1
        · have := List.all_eq_true.1 h1 y (by simp)
          rw [hy] at this
          rintro ⟨e1, e2⟩
          simp [e1, e2] at this
      · exact ih.2 hy m hm hs

theorem up_of_mem (L : List R3) : udistB L = true → ∀ x ∈ L, skipB x = false → upF L (x.2.1, x.2.2) = some x.1 := by
  refine snoc_ind (P := fun L => udistB L = true → ∀ x ∈ L, skipB x = false → upF L (x.2.1, x.2.2) = some x.1) (fun _ x hx => by simp at hx) (fun M y ih hd x hx hs => ?_) L
  have h := udist_snoc M y hd
  rw [up_snoc]
  show (if skipB y = true then upF M (x.2.1, x.2.2) else if (x.2.1, x.2.2) = (y.2.1, y.2.2) then some y.1 else upF M (x.2.1, x.2.2)) = _
  rcases List.mem_append.1 hx with hm | hm
  · split
    · exact ih h.1 x hm hs
    · rename_i hy
      have hy' : skipB y = false := by simpa using hy
      have := h.2 hy' x hm hs
      rw [if_neg (fun e => this (by simpa using e))]
      exact ih h.1 x hm hs
  · simp at hm; subst hm
    rw [if_neg (by simp [hs]), if_pos rfl]
theorem up_mem (L : List R3) (k : Int × Int) (z : Int) : upF L k = some z → ∃ x ∈ L, skipB x = false ∧ k = (x.2.1, x.2.2) ∧ z = x.1 := by
  refine snoc_ind (P := fun L => upF L k = some z → ∃ x ∈ L, skipB x = false ∧ k = (x.2.1, x.2.2) ∧ z = x.1) (fun h => by simp [upF] at h) (fun M y ih h => ?_) L
  rw [up_snoc] at h
  have h' : (if skipB y = true then upF M k else if k = (y.2.1, y.2.2) then some y.1 else upF M k) = some z := h
  split at h'
  · obtain ⟨x, hx, h1⟩ := ih h'
    exact ⟨x, by simp [hx], h1⟩
  · rename_i hy
    split at h'
    · rename_i e
      exact ⟨y, by simp, by simpa using hy, e, (Option.some.inj h').symm⟩
    · obtain ⟨x, hx, h1⟩ := ih h'
      exact ⟨x, by simp [hx], h1⟩
theorem sc_pos (L : List R3) (r : Int) : 0 < (scF L r).getD 0 ↔ ∃ x ∈ L, skipB x = false ∧ x.2.2 = r := by
  refine snoc_ind (P := fun L => 0 < (scF L r).getD 0 ↔ ∃ x ∈ L, skipB x = false ∧ x.2.2 = r) (by simp [scF]) (fun M y ih => ?_) L
  rw [sc_snoc]
  show 0 < (if skipB y = true then scF M r else if r = y.2.2 then some ((scF M y.2.2).getD 0 + 1) else scF M r).getD 0 ↔ _
  have hex : (∃ x ∈ M ++ [y], skipB x = false ∧ x.2.2 = r) ↔ (∃ x ∈ M, skipB x = false ∧ x.2.2 = r) ∨ (skipB y = false ∧ y.2.2 = r) := by
    constructor
    · rintro ⟨x, hx, h⟩
      rcases List.mem_append.1 hx with hm | hm
      · exact .inl ⟨x, hm, h⟩
      · simp at hm; subst hm; exact .inr h
    · rintro (⟨x, hx, h⟩ | h)
      · exact ⟨x, by simp [hx], h⟩
      · exact ⟨y, by simp, h⟩
  rw [hex]
  split
  · rename_i hy
    rw [ih]
    constructor
    · exact .inl
    · rintro (h | ⟨h, _⟩)
      · exact h
      · rw [hy] at h; cases h
  · rename_i hy
    have hy' : skipB y = false := by simpa using hy
    split
    · rename_i e
      have := (sc_bd y.2.2 M).1
      simp only [Option.getD_some]
      constructor
      · intro _; exact .inr ⟨hy', e.symm⟩
      · intro _; omega
    · rename_i e
      rw [ih]
      constructor
      · exact .inl
      · rintro (h | ⟨_, h⟩)
        · exact h
        · exact absurd h.symm e

/-- What is made of two is made by them, or is never put together. -/
theorem back1 (r x y : Int) (h : dnF allP r = some (x, y, 2)) (hx : exB r = false) : upF allP (x, y) = some r := by
  obtain ⟨R, hR, e1, e2⟩ := dn_mem allP r _ h
  unfold valP at e2
  simp only [Prod.mk.injEq] at e2
  obtain ⟨a1, a2, a3⟩ := e2
  have h0 : R.2.2 ≠ 0 := fun e => by rw [if_pos e] at a3; cases a3
  have hs : skipB R = false := by
    unfold skipB
    rw [e1, hx]
    simp [h0]
  have := up_of_mem allP all_udist R hR hs
  rw [a1, a2, ← e1]; exact this
theorem back2 (a b z : Int) (h : upF allP (a, b) = some z) : dnF allP z = some (a, b, 2) ∧ exB z = false := by
  obtain ⟨R, hR, hs, e1, rfl⟩ := up_mem allP _ _ h
  simp only [Prod.mk.injEq] at e1
  have hs' := hs
  unfold skipB at hs'
  rw [Bool.or_eq_false_iff] at hs'
  refine ⟨?_, hs'.2⟩
  rw [dn_of_mem allP all_dist R hR]
  unfold valP
  rw [if_neg (by simpa using hs'.1), e1.1, e1.2]

/-- Told twice it is as told once. -/
def inSpan (r : Int) : Bool := spanT.any (fun x => decide (x.1 ≤ r) && decide (r ≤ x.2.1))
theorem low_out (r : Int) : ∀ (T : List S4), T.any (fun x => decide (x.1 ≤ r) && decide (r ≤ x.2.1)) = false → lowP r T = r
  | [], _ => rfl
  | x :: T, h => by
    rw [List.any_cons, Bool.or_eq_false_iff] at h
    unfold lowP
    rw [if_neg (fun hh => by simp [hh.1, hh.2.1] at h), low_out r T h.2]
def spanEach (x : S4) : Bool := (List.range (x.2.1 - x.1 + 1).toNat).all (fun i => lowP (lowP (x.1 + (i : Nat)) spanT) spanT == lowP (x.1 + (i : Nat)) spanT && decide (0 ≤ lowP (x.1 + (i : Nat)) spanT) && decide (lowP (x.1 + (i : Nat)) spanT ≤ 100000))
set_option maxRecDepth 1000000 in
theorem span_each : spanT.all spanEach = true := by kernel_rfl
theorem low_facts (r : Int) (hr : I32 r) : lowP (lowP r spanT) spanT = lowP r spanT ∧ I32 (lowP r spanT) := by
  cases h : inSpan r with
  | false =>
    have := low_out r spanT h
    rw [this]; exact ⟨this, hr⟩
  | true =>
    obtain ⟨x, hx, hh⟩ := List.any_eq_true.1 h
    rw [Bool.and_eq_true, decide_eq_true_eq, decide_eq_true_eq] at hh
    have h1 := List.all_eq_true.1 span_each x hx
    have h2 := List.all_eq_true.1 h1 (r - x.1).toNat (List.mem_range.2 (by omega))
    rw [show x.1 + ((r - x.1).toNat : Int) = r by omega] at h2
    simp only [Bool.and_eq_true, beq_iff_eq, decide_eq_true_eq] at h2
    refine ⟨h2.1.1, ?_⟩
    unfold I32
    omega
def kanaOk (v : Int) : Bool := widP v == v && decide (0 ≤ v) && decide (v ≤ 100000)
set_option maxRecDepth 1000000 in
theorem kana_each : kanaT.all kanaOk = true := by kernel_rfl
theorem wid_facts (r : Int) (hr : I32 r) : widP (widP r) = widP r ∧ I32 (widP r) := by
  have hr' := hr
  unfold I32 at hr'
  by_cases h1 : 65281 ≤ r ∧ r ≤ 65374
  · have e : widP r = r - 65281 + 33 := if_pos h1
    rw [e]
    refine ⟨?_, by unfold I32; omega⟩
    unfold widP
    rw [if_neg (by omega), if_neg (by omega), if_neg (by omega), if_neg (by omega)]
  by_cases h2 : r = 65377
  · subst h2; exact ⟨rfl, by unfold I32; exact ⟨by decide, by decide⟩⟩
  by_cases h3 : r = 65381
  · subst h3; exact ⟨rfl, by unfold I32; exact ⟨by decide, by decide⟩⟩
  by_cases h4 : 65382 ≤ r ∧ r ≤ 65439
  · have e : widP r = kanaT.getD (r - 65382).toNat 0 := by unfold widP; rw [if_neg h1, if_neg h2, if_neg h3, if_pos h4]
    have hk : (r - 65382).toNat < kanaT.length := by show _ < 58; omega
    rw [List.getD_eq_getElem?_getD, List.getElem?_eq_getElem hk] at e
    simp only [Option.getD_some] at e
    have h5 := List.all_eq_true.1 kana_each kanaT[(r - 65382).toNat] (List.getElem_mem hk)
    unfold kanaOk at h5
    simp only [Bool.and_eq_true, beq_iff_eq, decide_eq_true_eq] at h5
    rw [e]
    exact ⟨h5.1.1, by unfold I32; omega⟩
  · have e : widP r = r := by unfold widP; rw [if_neg h1, if_neg h2, if_neg h3, if_neg h4]
    rw [e]; exact ⟨e, hr⟩

set_option maxRecDepth 1000000 in
theorem dn_E9 : (dnF allP 233).getD (0, 0, 0) = (101, 769, 2) := by kernel_rfl
set_option maxRecDepth 1000000 in
theorem up_E9 : (upF allP (101, 769)).getD 0 = 233 := by kernel_rfl
set_option maxRecDepth 1000000 in
theorem up_E9' : (upF allP (101, 769)).isSome = true := by kernel_rfl
theorem low_A : lowP 65 spanT = 97 := by kernel_rfl
theorem wid_A : widP 65313 = 65 := by kernel_rfl

end Go.Proofs.Ytbamhbfncddieaa.Pr
