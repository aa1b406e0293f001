import Derived.Test.YtpfnljebofgifabStg17
namespace Go.Proofs.Ytpfnljebofgifab
open Go.RowKit

def setLast (out : List (SRow Int)) (t : Int) : List (SRow Int) :=
  match out.getLast? with
  | some y => out.dropLast ++ [⟨y.f, t, y.v⟩]
  | none => out
theorem setLast_snoc (m : List (SRow Int)) (y : SRow Int) (t : Int) : setLast (m ++ [y]) t = m ++ [⟨y.f, t, y.v⟩] := by simp [setLast]

/-- One code point of Rows. -/
def scanS (other v : Int) (r : Int) (s : List (SRow Int) × Int) : List (SRow Int) × Int :=
  (if v ≠ other ∧ v = s.2 then setLast s.1 r else if v ≠ other then s.1 ++ [⟨r, r, v⟩] else s.1, v)
def scan (val : Int → Int) (other : Int) : Nat → List (SRow Int) × Int
  | 0 => ([], other)
  | r + 1 => scanS other (val r) r (scan val other r)

/-- One row of the reference's Fewest. -/
def stepF (other : Int) (out : List (SRow Int)) (x : SRow Int) : List (SRow Int) :=
  if x.v = other then out else match out.getLast? with
    | some y => if y.t = x.f - 1 ∧ y.v = x.v then setLast out x.t else out ++ [x]
    | none => out ++ [x]

/-- What is known behind r code points. -/
structure ScanOk (val : Int → Int) (other : Int) (r : Nat) (s : List (SRow Int) × Int) : Prop where
  ahead : s.2 ≠ other → ∃ m y, s.1 = m ++ [y] ∧ y.t = (r : Int) - 1 ∧ y.v = s.2
  far : s.2 = other → ∀ m y, s.1 = m ++ [y] → y.t < (r : Int) - 1
  below : ∀ y ∈ s.1, y.t ≤ (r : Int) - 1
  rising : Rising (-1) s.1
  tells : ∀ q : Int, 0 ≤ q → q < r → at' other s.1 q = val q
  last : s.2 = if r = 0 then other else val ((r : Int) - 1)

theorem snoc_inj {α : Type} {a b : List α} {x y : α} (h : a ++ [x] = b ++ [y]) : a = b ∧ x = y := by
  have := List.append_inj' h rfl
  simpa using this

theorem rising_snoc {α : Type} : ∀ (l : List (SRow α)) (a : Int) (x : SRow α), Rising a l → (∀ y ∈ l, y.t < x.f) → a < x.f → x.f ≤ x.t → x.t ≤ 1114111 → Rising a (l ++ [x])
  | [], a, x, _, _, h1, h2, h3 => ⟨h1, h2, h3, trivial⟩
  | y :: l, a, x, h, hl, h1, h2, h3 => by
    obtain ⟨r1, r2, r3, r4⟩ := h
    exact ⟨r1, r2, r3, rising_snoc l y.t x r4 (fun z hz => hl z (by simp [hz])) (hl y (by simp)) h2 h3⟩
theorem rising_init {α : Type} : ∀ (l : List (SRow α)) (a : Int) (x : SRow α), Rising a (l ++ [x]) → Rising a l ∧ (∀ y ∈ l, y.t < x.f) ∧ a < x.f ∧ x.f ≤ x.t
  | [], a, x, h => ⟨trivial, fun y hy => by simp at hy, h.1, h.2.1⟩
  | y :: l, a, x, h => by
    obtain ⟨r1, r2, r3, r4⟩ := h
    obtain ⟨h1, h2, h3, h4⟩ := rising_init l y.t x r4
    refine ⟨⟨r1, r2, r3, h1⟩, fun z hz => ?_, by omega, h4⟩
    rcases List.mem_cons.1 hz with rfl | hz
    · exact h3
    · exact h2 z hz

theorem scan_ok (val : Int → Int) (other : Int) : ∀ r : Nat, r ≤ 1114112 → ScanOk val other r (scan val other r)
  | 0, _ => ⟨fun h => absurd rfl h, fun _ m y h => by simp [scan] at h, fun y hy => by simp [scan] at hy, trivial, fun q h0 h1 => by omega, rfl⟩
  | r + 1, hr => by
    have ih := scan_ok val other r (by omega)
    have hlast : (scan val other (r + 1)).2 = if r + 1 = 0 then other else val (((r + 1 : Nat) : Int) - 1) := by
      rw [if_neg (by omega)]
      show val r = _
      congr 1; omega
    have e1 : (scan val other (r + 1)).2 = val r := rfl
    generalize hs : scan val other r = s at ih
    have e2 : (scan val other (r + 1)).1 = if val r ≠ other ∧ val r = s.2 then setLast s.1 r else if val r ≠ other then s.1 ++ [⟨r, r, val r⟩] else s.1 := by
      show (scanS other (val r) r (scan val other r)).1 = _
      rw [hs]; rfl
    by_cases h1 : val r ≠ other ∧ val r = s.2
    · rw [if_pos h1] at e2
      obtain ⟨m, y, e3, e4, e5⟩ := ih.ahead (by rw [← h1.2]; exact h1.1)
      rw [e3, setLast_snoc] at e2
      have hris := ih.rising
      rw [e3] at hris
      obtain ⟨i1, i2, i3, i4⟩ := rising_init m (-1) y hris
      refine ⟨fun _ => ⟨m, _, e2, by simp only; omega, by rw [e1, e5, ← h1.2]⟩, fun h => absurd (e1.symm.trans h) h1.1, fun z hz => ?_, ?_, fun q q0 q1 => ?_, hlast⟩
      · rw [e2] at hz
        simp at hz
        rcases hz with hz | rfl
        · have := ih.below z (by rw [e3]; simp [hz]); omega
        · simp only; omega
      · rw [e2]
        exact rising_snoc m (-1) _ i1 i2 i3 (by simp only; omega) (by simp only; omega)
      · rw [e2, at_snoc]
        by_cases hq : q = r
        · subst hq
          rw [if_pos (by simp only; omega)]
          simp only
          rw [e5, ← h1.2]
        · have := ih.tells q q0 (by omega)
          rw [e3, at_snoc] at this
          by_cases hy : y.f ≤ q ∧ q ≤ y.t
          · rw [if_pos hy] at this
            rw [if_pos (by simp only; omega)]; exact this
          · rw [if_neg hy] at this
            rw [if_neg (by simp only; omega)]; exact this
    · rw [if_neg h1] at e2
      by_cases h2 : val r ≠ other
      · rw [if_pos h2] at e2
        refine ⟨fun _ => ⟨s.1, _, e2, by simp only; omega, by rw [e1]⟩, fun h => absurd (e1.symm.trans h) h2, fun z hz => ?_, ?_, fun q q0 q1 => ?_, hlast⟩
        · rw [e2] at hz
          simp at hz
          rcases hz with hz | rfl
          · have := ih.below z hz; omega
          · simp only; omega
        · rw [e2]
          exact rising_snoc _ (-1) _ ih.rising (fun y hy => by have := ih.below y hy; simp only; omega) (by simp only; omega) (by simp only; omega) (by simp only; omega)
        · rw [e2, at_snoc]
          by_cases hq : q = r
          · subst hq
            rw [if_pos (by simp only; omega)]
          · rw [if_neg (by simp only; omega)]
            exact ih.tells q q0 (by omega)
      · rw [if_neg h2] at e2
        have h3 : val r = other := Classical.not_not.1 h2
        refine ⟨fun h => absurd (e1.trans h3) h, fun _ m y hm => ?_, fun z hz => ?_, by rw [e2]; exact ih.rising, fun q q0 q1 => ?_, hlast⟩
        · rw [e2] at hm
          have := ih.below y (by rw [hm]; simp)
          omega
        · rw [e2] at hz
          have := ih.below z hz; omega
        · rw [e2]
          by_cases hq : q = r
          · subst hq
            rw [h3]
            refine at_drop_none _ _ _ (fun z hz => ?_)
            have := ih.below z hz
            omega
          · exact ih.tells q q0 (by omega)

/-- A run of code points that are the other one. -/
theorem scan_gap (val : Int → Int) (other : Int) (a : Nat) : ∀ n : Nat, (∀ q : Int, (a : Int) ≤ q → q < a + n → val q = other) → 0 < n → scan val other (a + n) = ((scan val other a).1, other)
  | 0, _, h => absurd h (Nat.lt_irrefl _)
  | n + 1, h, _ => by
    have hv : val ((a + n : Nat) : Int) = other := h _ (by omega) (by omega)
    have hs : (scan val other (a + n)).1 = (scan val other a).1 := by
      cases n with
      | zero => rfl
      | succ n => rw [scan_gap val other a (n + 1) (fun q h1 h2 => h q h1 (by omega)) (by omega)]
    show scanS other (val ((a + n : Nat) : Int)) _ (scan val other (a + n)) = _
    rw [hv]
    unfold scanS
    rw [if_neg (fun h => h.1 rfl), if_neg (fun h => h rfl), hs]

/-- A run of code points of one value. -/
theorem scan_run (val : Int → Int) (other v : Int) (hv : v ≠ other) (a : Nat) : ∀ n : Nat, (∀ q : Int, (a : Int) ≤ q → q < a + n → val q = v) → 0 < n →
    scan val other (a + n) = (if v = (scan val other a).2 then setLast (scan val other a).1 ((a + n : Nat) - 1 : Int) else (scan val other a).1 ++ [⟨a, ((a + n : Nat) : Int) - 1, v⟩], v)
  | 0, _, h => absurd h (Nat.lt_irrefl _)
  | n + 1, h, _ => by
    have hq : val ((a + n : Nat) : Int) = v := h _ (by omega) (by omega)
    have e0 : ((a + (n + 1) : Nat) : Int) - 1 = ((a + n : Nat) : Int) := by omega
    show scanS other (val ((a + n : Nat) : Int)) _ (scan val other (a + n)) = _
    rw [hq, e0]
    cases n with
    | zero =>
      unfold scanS
      by_cases e : v = (scan val other a).2
      · have : v ≠ other ∧ v = (scan val other (a + 0)).2 := ⟨hv, e⟩
        rw [if_pos this, if_pos e]; rfl
      · have : ¬ (v ≠ other ∧ v = (scan val other (a + 0)).2) := fun h => e h.2
        rw [if_neg this, if_neg e, if_pos hv]; rfl
    | succ n =>
      rw [scan_run val other v hv a (n + 1) (fun q h1 h2 => h q h1 (by omega)) (by omega)]
      unfold scanS
      rw [if_pos ⟨hv, rfl⟩]
      simp only
      by_cases e : v = (scan val other a).2
      · rw [if_pos e, if_pos e]
        congr 1
        rcases List.eq_nil_or_concat (scan val other a).1 with h0 | ⟨m, y, h0⟩
        · rw [h0]; rfl
        · rw [List.concat_eq_append] at h0; rw [h0, setLast_snoc, setLast_snoc, setLast_snoc]; rfl
      · rw [if_neg e, if_neg e, setLast_snoc]; rfl

theorem stepF_snoc (other : Int) (m : List (SRow Int)) (y x : SRow Int) (hx : x.v ≠ other) : stepF other (m ++ [y]) x = if y.t = x.f - 1 ∧ y.v = x.v then setLast (m ++ [y]) x.t else (m ++ [y]) ++ [x] := by
  unfold stepF
  rw [if_neg hx]
  simp
theorem stepF_nil (other : Int) (x : SRow Int) (hx : x.v ≠ other) : stepF other [] x = [x] := by
  unfold stepF
  rw [if_neg hx]; rfl

/-- From code point a on, rows l. -/
theorem scan_rows (val : Int → Int) (other : Int) : ∀ (l : List (SRow Int)) (a : Nat), a ≤ 1114112 → Rising ((a : Int) - 1) l → (∀ q : Int, (a : Int) ≤ q → val q = at' other l q) →
    (scan val other 1114112).1 = l.foldl (stepF other) (scan val other a).1
  | [], a, ha, _, hv => by
    by_cases e : a = 1114112
    · subst e; rfl
    · obtain ⟨n, hn⟩ : ∃ n, 1114112 = a + n := ⟨1114112 - a, by omega⟩
      rw [hn, scan_gap val other a n (fun q h1 _ => hv q h1) (by omega)]; rfl
  | x :: l, a, ha, hr, hv => by
    obtain ⟨r1, r2, r3, r4⟩ := hr
    obtain ⟨f, hf⟩ : ∃ f : Nat, x.f = f := ⟨x.f.toNat, by omega⟩
    obtain ⟨t, ht⟩ : ∃ t : Nat, x.t = t := ⟨x.t.toNat, by omega⟩
    have hin : ∀ q : Int, x.f ≤ q → q ≤ x.t → val q = x.v := fun q h1 h2 => by
      rw [hv q (by omega)]
      show at' (if x.f ≤ q ∧ q ≤ x.t then x.v else other) l q = _
      rw [if_pos ⟨h1, h2⟩]
      refine at_drop_none _ _ _ (fun y hy => ?_)
      obtain ⟨j, hj⟩ := List.mem_iff_getElem?.1 hy
      have := (rising_after l x.t r4 j y hj).1
      omega
    have hgap : ∀ q : Int, (a : Int) ≤ q → q < x.f → val q = other := fun q h1 h2 => by
      rw [hv q h1]
      refine at_drop_none _ _ _ (fun y hy => ?_)
      rcases List.mem_cons.1 hy with rfl | hy
      · omega
      · obtain ⟨j, hj⟩ := List.mem_iff_getElem?.1 hy
        have := (rising_after l x.t r4 j y hj).1
        omega
    have hrest : ∀ q : Int, ((t + 1 : Nat) : Int) ≤ q → val q = at' other l q := fun q h1 => by
      rw [hv q (by omega)]
      show at' (if x.f ≤ q ∧ q ≤ x.t then x.v else other) l q = _
      rw [if_neg (by omega)]
    have ih := scan_rows val other l (t + 1) (by omega) (by have e : ((t + 1 : Nat) : Int) - 1 = x.t := by omega
                                                            rw [e]; exact r4) hrest
    rw [ih, List.foldl_cons]
    congr 1
    -- behind the gap
    have hF1 : (scan val other f).1 = (scan val other a).1 := by
      by_cases e : f = a
      · rw [e]
      · obtain ⟨n, hn⟩ : ∃ n, f = a + n := ⟨f - a, by omega⟩
        rw [hn, scan_gap val other a n (fun q h1 h2 => hgap q h1 (by omega)) (by omega)]
    have hokf := scan_ok val other f (by omega)
    obtain ⟨n, hn⟩ : ∃ n, t + 1 = f + n := ⟨t + 1 - f, by omega⟩
    by_cases hvo : x.v = other
    · rw [hn, scan_gap val other f n (fun q h1 h2 => by rw [hin q (by omega) (by omega), hvo]) (by omega)]
      show (scan val other f).1 = _
      rw [hF1]
      unfold stepF
      rw [if_pos hvo]
    · have hrun := scan_run val other x.v hvo f n (fun q h1 h2 => hin q (by omega) (by omega)) (by omega)
      rw [hn, hrun]
      have et : ((f + n : Nat) : Int) - 1 = x.t := by omega
      rw [et]
      show (if x.v = (scan val other f).2 then setLast (scan val other f).1 x.t else (scan val other f).1 ++ [⟨f, x.t, x.v⟩]) = _
      have hxe : (⟨(f : Int), x.t, x.v⟩ : SRow Int) = x := by rw [← hf]
      rw [hxe, ← hF1]
      by_cases e : x.v = (scan val other f).2
      · rw [if_pos e]
        obtain ⟨m, y, e1, e2, e3⟩ := hokf.ahead (by rw [← e]; exact hvo)
        rw [e1, stepF_snoc other m y x hvo, if_pos ⟨by omega, by rw [e3, e]⟩]
      · rw [if_neg e]
        rcases List.eq_nil_or_concat (scan val other f).1 with h0 | ⟨m, y, h0⟩
        · rw [h0, stepF_nil other x hvo]; rfl
        · rw [List.concat_eq_append] at h0
          rw [h0, stepF_snoc other m y x hvo, if_neg]
          rintro ⟨h1, h2⟩
          by_cases ho : (scan val other f).2 = other
          · have := hokf.far ho m y h0
            omega
          · obtain ⟨m', y', e1, _, e3⟩ := hokf.ahead ho
            rw [h0] at e1
            obtain ⟨_, rfl⟩ := snoc_inj e1
            exact e (by rw [← h2, e3])

theorem scan_fewest (l : List (SRow Int)) (other : Int) (h : Rising (-1) l) : (scan (at' other l) other 1114112).1 = l.foldl (stepF other) [] :=
  scan_rows (at' other l) other l 0 (by omega) (by simpa using h) (fun _ _ => rfl)

theorem fewest_len (other : Int) : ∀ (l out : List (SRow Int)), (l.foldl (stepF other) out).length ≤ out.length + l.length
  | [], out => by simp
  | x :: l, out => by
    rw [List.foldl_cons]
    have h1 := fewest_len other l (stepF other out x)
    have h2 : (stepF other out x).length ≤ out.length + 1 := by
      by_cases hx : x.v = other
      · unfold stepF; rw [if_pos hx]; omega
      · rcases List.eq_nil_or_concat out with h0 | ⟨m, y, h0⟩
        · rw [h0, stepF_nil other x hx]; simp
        · rw [List.concat_eq_append] at h0
          rw [h0, stepF_snoc other m y x hx, setLast_snoc]
          split <;> simp
    simp only [List.length_cons]; omega

theorem at_in : ∀ (l : List (SRow Nat)) (a : Int), Rising a l → ∀ x ∈ l, ∀ r : Int, x.f ≤ r → r ≤ x.t → ∀ z : Nat, at' z l r = x.v
  | [], _, _, x, hx, _, _, _, _ => by simp at hx
  | y :: l, _, h, x, hx, r, h1, h2, z => by
    obtain ⟨r1, r2, r3, r4⟩ := h
    show at' (if y.f ≤ r ∧ r ≤ y.t then y.v else z) l r = _
    rcases List.mem_cons.1 hx with rfl | hx
    · rw [if_pos ⟨h1, h2⟩]
      refine at_drop_none _ _ _ (fun z hz => ?_)
      obtain ⟨j, hj⟩ := List.mem_iff_getElem?.1 hz
      have := (rising_after l x.t r4 j z hj).1
      omega
    · exact at_in l _ r4 x hx r h1 h2 _

/-! ### How many blocks there are -/
theorem blocks_most {other : Int} {l : List (SRow Int)} {vals : List Int} {nr : List (SRow Nat)} {bl : List (List Nat)} {pl : List Nat} (hn : Numd other l vals nr) (hr : Rising (-1) nr) (h : LaidTo (at' 0 nr) 4352 bl pl) : bl.length ≤ 3 * l.length + 1 := by
  have hL : (List.replicate 256 0 :: nr.flatMap (fun x => [blkN (at' 0 nr) (x.f.toNat / 256), blkN (at' 0 nr) (x.t.toNat / 256), List.replicate 256 x.v])).length = 3 * l.length + 1 := by
    rw [← hn.len]
    clear hn hr h
    have : ∀ (g : SRow Nat → List (List Nat)), (∀ x, (g x).length = 3) → ∀ m : List (SRow Nat), (m.flatMap g).length = 3 * m.length := by
      intro g hg m
      induction m with
      | nil => rfl
      | cons x m ih => rw [List.flatMap_cons, List.length_append, ih, hg, List.length_cons]; omega
    rw [List.length_cons, this _ (fun _ => rfl)]
  rw [← hL]
  refine nodup_len bl _ h.nodup (fun b hb => ?_)
  obtain ⟨i, hi, rfl⟩ := h.used b hb
  have hpos : ∀ x ∈ nr, 0 ≤ x.f ∧ x.f ≤ x.t := fun x hx => by
    obtain ⟨j, hj⟩ := List.mem_iff_getElem?.1 hx
    have h1 := (rising_after nr (-1) hr j x hj).1
    have h2 := rising_fine nr (-1) hr x hx
    omega
  by_cases hF : ∃ x ∈ nr, x.f.toNat / 256 = i ∨ x.t.toNat / 256 = i
  · obtain ⟨x, hx, e⟩ := hF
    refine List.mem_cons_of_mem _ (List.mem_flatMap.2 ⟨x, hx, ?_⟩)
    rcases e with e | e
    · rw [e]; exact List.mem_cons_self
    · rw [e]; exact List.mem_cons_of_mem _ List.mem_cons_self
  · by_cases hI : ∃ x ∈ nr, x.f ≤ 256 * (i : Int) ∧ 256 * (i : Int) ≤ x.t
    · obtain ⟨x, hx, h1, h2⟩ := hI
      refine List.mem_cons_of_mem _ (List.mem_flatMap.2 ⟨x, hx, ?_⟩)
      have h3 : ¬ x.t.toNat / 256 = i := fun e => hF ⟨x, hx, .inr e⟩
      have h4 : ¬ x.f.toNat / 256 = i := fun e => hF ⟨x, hx, .inl e⟩
      have hp := hpos x hx
      have : blkN (at' 0 nr) i = List.replicate 256 x.v := by
        apply List.ext_getElem?
        intro j
        by_cases hj : j < 256
        · rw [List.getElem?_replicate, if_pos hj]
          simp only [blkN, List.getElem?_map, List.getElem?_range hj, Option.map_some]
          congr 1
          exact at_in nr (-1) hr x hx _ (by omega) (by omega) 0
        · rw [List.getElem?_eq_none (by simp [blkN]; omega), List.getElem?_eq_none (by rw [List.length_replicate]; omega)]
      rw [this]; exact List.mem_cons_of_mem _ (List.mem_cons_of_mem _ List.mem_cons_self)
    · have : blkN (at' 0 nr) i = List.replicate 256 0 := by
        apply List.ext_getElem?
        intro j
        by_cases hj : j < 256
        · rw [List.getElem?_replicate, if_pos hj]
          simp only [blkN, List.getElem?_map, List.getElem?_range hj, Option.map_some]
          congr 1
          refine at_drop_none _ _ _ (fun x hx h => ?_)
          have hp := hpos x hx
          have h3 : ¬ x.t.toNat / 256 = i := fun e => hF ⟨x, hx, .inr e⟩
          have h4 : ¬ x.f.toNat / 256 = i := fun e => hF ⟨x, hx, .inl e⟩
          exact hI ⟨x, hx, by omega, by omega⟩
        · rw [List.getElem?_eq_none (by simp [blkN]; omega), List.getElem?_eq_none (by rw [List.length_replicate]; omega)]
      rw [this]; exact List.mem_cons_self

theorem blocks_le {num1 num2 : Int → Nat} {bl1 bl2 : List (List Nat)} {pl1 pl2 : List Nat} (h1 : LaidTo num1 4352 bl1 pl1) (h2 : LaidTo num2 4352 bl2 pl2)
    (heq : ∀ q r : Int, 0 ≤ q → q ≤ 1114111 → 0 ≤ r → r ≤ 1114111 → num2 q = num2 r → num1 q = num1 r) : bl1.length ≤ bl2.length := by
  obtain ⟨g, hg⟩ : ∃ g : List Nat → List Nat, ∀ b ∈ bl1, ∃ i, i < 4352 ∧ b = blkN num1 i ∧ g b = blkN num2 i :=
    ⟨fun b => blkN num2 (Classical.epsilon (fun i => i < 4352 ∧ b = blkN num1 i)), fun b hb => ⟨_, (Classical.epsilon_spec (h1.used b hb)).1, (Classical.epsilon_spec (h1.used b hb)).2, rfl⟩⟩
  have hnd : (bl1.map g).Nodup := by
    have h0 := h1.nodup
    unfold List.Nodup at h0 ⊢
    rw [List.pairwise_map]
    refine h0.imp_of_mem (fun {a b} ha hb hne e => hne ?_)
    obtain ⟨i, hi, ea, ga⟩ := hg a ha
    obtain ⟨j, hj, eb, gb⟩ := hg b hb
    rw [ga, gb] at e
    rw [ea, eb]
    unfold blkN at e ⊢
    refine List.map_congr_left (fun k hk => ?_)
    have hk' : k < 256 := by simpa using hk
    have := congrArg (fun l : List Nat => l[k]?) e
    simp [hk'] at this
    exact heq _ _ (by omega) (by omega) (by omega) (by omega) this
  have := nodup_len (bl1.map g) bl2 hnd (fun c hc => by
    obtain ⟨b, hb, rfl⟩ := List.mem_map.1 hc
    obtain ⟨i, hi, _, e⟩ := hg b hb
    rw [e]; exact h2.mem i hi)
  simpa using this

/-- Two tables of the same values have as many blocks. -/
theorem blocks_same {w1 w2 : World} {p1 p2 : Nat} {l1 l2 : List (SRow Int)} {other : Int} {f1 f2 : Nat → Value} {vals1 vals2 : List Int} {nr1 nr2 : List (SRow Nat)} {bl1 bl2 : List (List Nat)} {pl1 pl2 : List Nat}
    (h1 : TabP w1 p1 l1 other f1 vals1 nr1 bl1 pl1) (h2 : TabP w2 p2 l2 other f2 vals2 nr2 bl2 pl2) (hv : ∀ q : Int, 0 ≤ q → q ≤ 1114111 → at' other l1 q = at' other l2 q) : bl1.length ≤ bl2.length := by
  refine blocks_le h1.laid h2.laid (fun q r q0 q1 r0 r1 e => ?_)
  have a1 := h1.num q
  have a2 := h1.num r
  have b1 := h2.num q
  have b2 := h2.num r
  rw [e, b2] at b1
  rw [hv q q0 q1, ← Option.some.inj b1, ← hv r r0 r1, ← a2] at a1
  have n1 := (List.getElem?_eq_some_iff.1 (a1.trans a2)).1
  exact (List.getElem?_inj n1 h1.numd.nodup).1 a1
end Go.Proofs.Ytpfnljebofgifab
