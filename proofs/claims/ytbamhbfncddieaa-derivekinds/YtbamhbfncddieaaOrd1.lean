import Derived.Test.YtbamhbfncddieaaBase
namespace Go.Proofs.Ytbamhbfncddieaa
namespace Od

section
variable (c : Int → Int)

/-- A sign goes behind the lesser marks that stand next to it. -/
def ins (x : Int) : List Int → List Int
  | [] => [x]
  | y :: l => if 0 < c y ∧ c y < c x then y :: ins x l else x :: y :: l
/-- Marks in the order of their classes. -/
def srt : List Int → List Int
  | [] => []
  | x :: l => ins c x (srt l)
/-- In order: no mark stands behind a greater one. -/
def Ord : List Int → Prop
  | [] => True
  | [_] => True
  | x :: y :: l => ¬ (0 < c y ∧ c y < c x) ∧ Ord (y :: l)

theorem Ord.tail {x : Int} {l : List Int} (h : Ord c (x :: l)) : Ord c l := by
  cases l with
  | nil => trivial
  | cons y l => exact h.2

theorem ins_comm (a b : Int) (h0 : 0 < c b) (h : c b < c a) : ∀ m, ins c a (ins c b m) = ins c b (ins c a m)
  | [] => by
    simp only [ins]
    rw [if_pos ⟨h0, h⟩, if_neg (by omega)]
  | y :: m => by
    simp only [ins]
    by_cases h1 : 0 < c y ∧ c y < c b
    · rw [if_pos h1, if_pos (show 0 < c y ∧ c y < c a by omega)]
      simp only [ins]
      rw [if_pos (show 0 < c y ∧ c y < c a by omega), if_pos h1, ins_comm a b h0 h m]
    · rw [if_neg h1]
      by_cases h2 : 0 < c y ∧ c y < c a
      · rw [if_pos h2]
        simp only [ins]
        rw [if_pos ⟨h0, h⟩, if_pos h2, if_neg h1]
      · rw [if_neg h2]
        simp only [ins]
        rw [if_pos ⟨h0, h⟩, if_neg h2, if_neg (by omega)]

/-- Neighbours change places, the greater mark going behind. -/
def Sw (l m : List Int) : Prop := ∀ R : List Int → Prop, R l → (∀ (A : List Int) (a b : Int) (B : List Int), 0 < c b → c b < c a → R (A ++ a :: b :: B) → R (A ++ b :: a :: B)) → R m
theorem Sw.refl {c : Int → Int} (l : List Int) : Sw c l l := fun _ h _ => h
theorem Sw.step {c : Int → Int} {l : List Int} (A : List Int) (a b : Int) (B : List Int) (h0 : 0 < c b) (h1 : c b < c a) (h : Sw c l (A ++ a :: b :: B)) : Sw c l (A ++ b :: a :: B) := fun R hr hs => hs A a b B h0 h1 (h R hr hs)
theorem Sw.trans {c : Int → Int} {l m n : List Int} (h : Sw c l m) (k : Sw c m n) : Sw c l n := k (fun x => Sw c l x) h (fun A a b B h0 h1 ih => .step A a b B h0 h1 ih)
theorem Sw.one {c : Int → Int} (A : List Int) (a b : Int) (B : List Int) (h0 : 0 < c b) (h1 : c b < c a) : Sw c (A ++ a :: b :: B) (A ++ b :: a :: B) := .step A a b B h0 h1 (.refl _)
theorem Sw.ctx {c : Int → Int} {l m : List Int} (h : Sw c l m) (X Y : List Int) : Sw c (X ++ l ++ Y) (X ++ m ++ Y) := by
  refine h (fun x => Sw c (X ++ l ++ Y) (X ++ x ++ Y)) (.refl _) (fun A a b B h0 h1 ih => ?_)
  · have e : X ++ (A ++ a :: b :: B) ++ Y = (X ++ A) ++ a :: b :: (B ++ Y) := by simp
    have e' : X ++ (A ++ b :: a :: B) ++ Y = (X ++ A) ++ b :: a :: (B ++ Y) := by simp
    show Sw c _ (X ++ (A ++ b :: a :: B) ++ Y)
    rw [e']
    replace ih : Sw c (X ++ l ++ Y) (X ++ (A ++ a :: b :: B) ++ Y) := ih
    rw [e] at ih
    exact .step _ a b _ h0 h1 ih
theorem Sw.cons {c : Int → Int} {l m : List Int} (h : Sw c l m) (x : Int) : Sw c (x :: l) (x :: m) := by simpa using h.ctx [x] []
theorem srt_pre {l m : List Int} (h : srt c l = srt c m) : ∀ A, srt c (A ++ l) = srt c (A ++ m)
  | [] => h
  | x :: A => by simp only [List.cons_append, srt]; rw [srt_pre h A]
theorem Sw.srt_eq {c : Int → Int} {l m : List Int} (h : Sw c l m) : srt c m = srt c l := by
  refine h (fun x => srt c x = srt c l) rfl (fun A a b B h0 h1 ih => ?_)
  · show srt c (A ++ b :: a :: B) = _
    rw [← ih]
    refine srt_pre c ?_ A
    simp only [srt]
    exact (ins_comm c a b h0 h1 _).symm
theorem Sw.perm {c : Int → Int} {l m : List Int} (h : Sw c l m) : l.Perm m := by
  exact h (fun x => l.Perm x) (.refl _) (fun A a b B _ _ ih => ih.trans ((List.Perm.swap b a B).append_left A))
theorem Sw.len {c : Int → Int} {l m : List Int} (h : Sw c l m) : m.length = l.length := h.perm.length_eq.symm

theorem ins_ord (x : Int) (y : Int) (l : List Int) : ¬ (0 < c y ∧ c y < c x) → ins c x (y :: l) = x :: y :: l := fun h => if_neg h
theorem Ord.srt_eq {c : Int → Int} : ∀ {l : List Int}, Ord c l → srt c l = l
  | [], _ => rfl
  | [_], _ => rfl
  | x :: y :: l, h => by
    rw [srt, Ord.srt_eq h.2]
    exact ins_ord c x y l h.1
theorem ins_head (x : Int) : ∀ (l : List Int), ∃ z r, ins c x l = z :: r ∧ (z = x ∨ ∃ m, l = z :: m)
  | [] => ⟨x, [], rfl, .inl rfl⟩
  | y :: l => by
    simp only [ins]
    split
    · exact ⟨y, _, rfl, .inr ⟨l, rfl⟩⟩
    · exact ⟨x, _, rfl, .inl rfl⟩
theorem ord_ins (x : Int) : ∀ (l : List Int), Ord c l → Ord c (ins c x l)
  | [], _ => trivial
  | y :: l, h => by
    simp only [ins]
    split
    · rename_i hh
      have ih := ord_ins x l h.tail
      obtain ⟨z, r, e, hz⟩ := ins_head c x l
      rw [e] at ih ⊢
      refine ⟨?_, ih⟩
      rcases hz with rfl | ⟨m, rfl⟩
      · omega
      · exact h.1
    · rename_i hh
      exact ⟨hh, h⟩
theorem ord_srt : ∀ (l : List Int), Ord c (srt c l)
  | [] => trivial
  | x :: l => ord_ins c x _ (ord_srt l)
theorem sw_ins (x : Int) : ∀ (l : List Int), Sw c (x :: l) (ins c x l)
  | [] => .refl _
  | y :: l => by
    simp only [ins]
    split
    · rename_i hh
      exact (Sw.one [] x y l hh.1 hh.2).trans ((sw_ins x l).cons y)
    · exact .refl _
theorem sw_srt : ∀ (l : List Int), Sw c l (srt c l)
  | [] => .refl _
  | x :: l => ((sw_srt l).cons x).trans (sw_ins c x _)
/-- What changed places, and is in order, is what is put in order. -/
theorem Sw.fin {c : Int → Int} {l m : List Int} (h : Sw c l m) (ho : Ord c m) : m = srt c l := by rw [← h.srt_eq, ho.srt_eq]
theorem srt_twice (l : List Int) : srt c (srt c l) = srt c l := (ord_srt c l).srt_eq
theorem ord_iff (l : List Int) : Ord c l ↔ srt c l = l := ⟨fun h => h.srt_eq, fun h => h ▸ ord_srt c l⟩

/-- A mark goes ahead of greater ones. -/
theorem sw_through (y : Int) (h0 : 0 < c y) : ∀ (X : List Int), (∀ x ∈ X, c y < c x) → Sw c (X ++ [y]) (y :: X)
  | [], _ => .refl _
  | x :: X, h => ((sw_through y h0 X (fun z hz => h z (by simp [hz]))).cons x).trans (Sw.one [] x y X h0 (h x (by simp)))
/-- Marks change places with greater ones. -/
theorem sw_blocks : ∀ (Y X : List Int), (∀ y ∈ Y, 0 < c y) → (∀ x ∈ X, ∀ y ∈ Y, c y < c x) → Sw c (X ++ Y) (Y ++ X)
  | [], X, _, _ => by simpa using Sw.refl X
  | y :: Y, X, h0, h => by
    have h1 := (sw_through c y (h0 y (by simp)) X (fun x hx => h x hx y (by simp))).ctx [] Y
    have h2 := (sw_blocks Y X (fun z hz => h0 z (by simp [hz])) (fun x hx z hz => h x hx z (by simp [hz]))).cons y
    simp only [List.nil_append, List.append_assoc, List.cons_append] at h1 h2 ⊢
    exact h1.trans h2

/-! ### Neighbours, round by round -/

def bub (x : Int) : List Int → List Int
  | [] => [x]
  | y :: l => if 0 < c y ∧ c y < c x then y :: bub x l else x :: bub y l
def pass : List Int → List Int
  | [] => []
  | x :: l => bub c x l
def itp : Nat → List Int → List Int
  | 0, l => l
  | k + 1, l => itp k (pass c l)
theorem itp_succ : ∀ (k : Nat) (l : List Int), itp c (k + 1) l = pass c (itp c k l)
  | 0, _ => rfl
  | k + 1, l => itp_succ k (pass c l)
theorem sw_bub : ∀ (l : List Int) (x : Int), Sw c (x :: l) (bub c x l)
  | [], _ => .refl _
  | y :: l, x => by
    simp only [bub]
    split
    · rename_i hh
      exact (Sw.one [] x y l hh.1 hh.2).trans ((sw_bub l x).cons y)
    · exact (sw_bub l y).cons x
theorem sw_pass : ∀ (l : List Int), Sw c l (pass c l)
  | [] => .refl _
  | x :: l => sw_bub c l x
theorem sw_itp : ∀ (k : Nat) (l : List Int), Sw c l (itp c k l)
  | 0, _ => .refl _
  | k + 1, l => (sw_pass c l).trans (sw_itp k _)

/-- Ahead of each mark, within its run, stand d greater ones at most; g tells how many stand there already. -/
def Few (d : Nat) : (Int → Nat) → List Int → Prop
  | _, [] => True
  | g, y :: l => if c y = 0 then Few d (fun _ => 0) l else g (c y) ≤ d ∧ Few d (fun t => g t + if t < c y then 1 else 0) l

theorem few_bub (d : Nat) (hc : ∀ x, 0 ≤ c x) : ∀ (l : List Int) (x : Int) (g gO : Int → Nat), (c x = 0 → gO = fun _ => 0) → (c x ≠ 0 → (∀ t, gO t = g t + if t < c x then 1 else 0) ∧ gO (c x) = 0) → (∀ s t, s ≤ t → gO t ≤ gO s) → Few c (d + 1) gO l → Few c d g (bub c x l)
  | [], x, g, gO, h0, h1, _, _ => by
    simp only [bub, Few]
    split
    · trivial
    · rename_i hx
      have := h1 hx
      have h2 := this.1 (c x)
      exact ⟨by omega, trivial⟩
  | y :: l, x, g, gO, h0, h1, ha, hq => by
    have hy := hc y
    have hx := hc x
    simp only [bub]
    split
    · rename_i hh
      have hx0 : c x ≠ 0 := by omega
      have hy0 : c y ≠ 0 := by omega
      obtain ⟨e, z⟩ := h1 hx0
      simp only [Few] at hq ⊢
      rw [if_neg hy0] at hq ⊢
      have e1 := e (c y)
      rw [if_pos hh.2] at e1
      refine ⟨by omega, few_bub d hc l x _ _ (fun h => absurd h hx0) (fun _ => ⟨fun t => ?_, ?_⟩) (fun s t hst => ?_) hq.2⟩
      · rw [e t]; omega
      · rw [z, if_neg (by omega)]
      · have := ha s t hst
        show gO t + _ ≤ gO s + _
        split <;> split <;> omega
    · rename_i hh
      by_cases hx0 : c x = 0
      · have e := h0 hx0
        subst e
        simp only [Few] at hq ⊢
        rw [if_pos hx0]
        by_cases hy0 : c y = 0
        · rw [if_pos hy0] at hq
          exact few_bub d hc l y _ _ (fun _ => rfl) (fun h => absurd hy0 h) (fun _ _ _ => Nat.le_refl _) hq
        · rw [if_neg hy0] at hq
          refine few_bub d hc l y _ _ (fun h => absurd h hy0) (fun _ => ⟨fun _ => rfl, ?_⟩) (fun s t hst => ?_) hq.2
          · rw [if_neg (by omega)]
          · show 0 + _ ≤ 0 + _
            split <;> split <;> omega
      · obtain ⟨e, z⟩ := h1 hx0
        have e2 : (fun t => g t + if t < c x then 1 else 0) = gO := by funext t; rw [e t]
        simp only [Few] at hq ⊢
        rw [if_neg hx0, e2]
        have e1 := e (c x)
        refine ⟨by omega, ?_⟩
        by_cases hy0 : c y = 0
        · rw [if_pos hy0] at hq
          exact few_bub d hc l y _ _ (fun _ => rfl) (fun h => absurd hy0 h) (fun _ _ _ => Nat.le_refl _) hq
        · rw [if_neg hy0] at hq
          refine few_bub d hc l y _ _ (fun h => absurd h hy0) (fun _ => ⟨fun _ => rfl, ?_⟩) (fun s t hst => ?_) hq.2
          · have := ha (c x) (c y) (by omega)
            rw [if_neg (by omega)]; omega
          · have := ha s t hst
            show gO t + _ ≤ gO s + _
            split <;> split <;> omega

theorem few_pass (d : Nat) (hc : ∀ x, 0 ≤ c x) : ∀ (l : List Int), Few c (d + 1) (fun _ => 0) l → Few c d (fun _ => 0) (pass c l)
  | [], _ => trivial
  | x :: l, h => by
    simp only [Few] at h
    by_cases hx0 : c x = 0
    · rw [if_pos hx0] at h
      exact few_bub c d hc l x _ _ (fun _ => rfl) (fun h => absurd hx0 h) (fun _ _ _ => Nat.le_refl _) h
    · rw [if_neg hx0] at h
      refine few_bub c d hc l x _ _ (fun h => absurd h hx0) (fun _ => ⟨fun _ => rfl, ?_⟩) (fun s t hst => ?_) h.2
      · rw [if_neg (by omega)]
      · show 0 + _ ≤ 0 + _
        split <;> split <;> omega
theorem few_ord (hc : ∀ x, 0 ≤ c x) : ∀ (l : List Int) (g : Int → Nat), Few c 0 g l → Ord c l
  | [], _, _ => trivial
  | [_], _, _ => trivial
  | x :: y :: l, g, h => by
    have hx := hc x
    have hy := hc y
    simp only [Few] at h
    by_cases hx0 : c x = 0
    · rw [if_pos hx0] at h
      exact ⟨by omega, few_ord hc (y :: l) (fun _ => 0) (by simp only [Few]; exact h)⟩
    · rw [if_neg hx0] at h
      refine ⟨?_, few_ord hc (y :: l) (fun t => g t + if t < c x then 1 else 0) (by simp only [Few]; exact h.2)⟩
      rintro ⟨h1, h2⟩
      have h3 := h.2
      rw [if_neg (by omega)] at h3
      have h4 := h3.1
      rw [if_pos h2] at h4
      omega
theorem few_all (d : Nat) : ∀ (l : List Int) (g : Int → Nat), (∀ t, g t + l.length ≤ d) → Few c d g l
  | [], _, _ => trivial
  | y :: l, g, h => by
    simp only [Few]
    split
    · exact few_all d l _ (fun t => by have := h t; simp only [List.length_cons] at this; omega)
    · refine ⟨by have := h (c y); omega, few_all d l _ (fun t => ?_)⟩
      have := h t
      simp only [List.length_cons] at this
      split <;> omega
theorem few_itp (hc : ∀ x, 0 ≤ c x) : ∀ (n : Nat) (l : List Int), Few c n (fun _ => 0) l → Ord c (itp c n l)
  | 0, l, h => few_ord c hc l _ h
  | n + 1, l, h => few_itp hc n _ (few_pass c n hc l h)
/-- As many rounds as there are put in order. -/
theorem itp_all (hc : ∀ x, 0 ≤ c x) (l : List Int) : itp c l.length l = srt c l := (sw_itp c _ l).fin (few_itp c hc _ l (few_all c _ l _ (fun _ => by omega)))

/-! ### Runs -/

/-- A step of looking for runs: what is behind, where one is open, and which place it is. -/
def stepR (s : List (Nat × Nat) × Option Nat × Nat) (x : Int) : List (Nat × Nat) × Option Nat × Nat :=
  if c x = 0 then (match s.2.1 with | none => s.1 | some f => s.1 ++ [(f, s.2.2)], none, s.2.2 + 1) else (s.1, some (s.2.1.getD s.2.2), s.2.2 + 1)
def stR (l : List Int) : List (Nat × Nat) × Option Nat × Nat := l.foldl (stepR c) ([], none, 0)
def finR (s : List (Nat × Nat) × Option Nat × Nat) : List (Nat × Nat) := match s.2.1 with | none => s.1 | some f => s.1 ++ [(f, s.2.2)]
/-- The runs of marks: the first place of each, and the place behind its last one. -/
def runsP (l : List Int) : List (Nat × Nat) := finR (stR c l)
theorem stR_snoc (l : List Int) (x : Int) : stR c (l ++ [x]) = stepR c (stR c l) x := by unfold stR; rw [List.foldl_append]; rfl
theorem stR_take (l : List Int) (k : Nat) (h : k < l.length) : stR c (l.take (k + 1)) = stepR c (stR c (l.take k)) l[k] := by
  rw [List.take_succ_eq_append_getElem h, stR_snoc]

/-- The last place of class 0 ahead of one; -1. -/
def startN (l : List Int) : Nat → Int
  | 0 => -1
  | k + 1 => if c (l.getD k 0) = 0 then k else startN l k
theorem startN_bd (l : List Int) : ∀ k, -1 ≤ startN c l k ∧ startN c l k < k
  | 0 => by simp [startN]
  | k + 1 => by
    have := startN_bd l k
    simp only [startN]
    split <;> omega
/-- Does something stand between one and its starter? -/
def blockedP (l : List Int) (i : Nat) : Bool := decide (0 ≤ startN c l i) && ((l.take i).drop ((startN c l i).toNat + 1)).any (fun r => decide (c (l.getD i 0) ≤ c r))
end
end Od
end Go.Proofs.Ytbamhbfncddieaa
