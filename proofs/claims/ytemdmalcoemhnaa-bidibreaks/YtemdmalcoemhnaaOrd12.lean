import Derived.Test.YtemdmalcoemhnaaOrd11
namespace Go.Proofs.Ytemdmalcoemhnaa
namespace Od
open Go.RowKit

theorem ord_app {c : Int → Int} : ∀ {P Q : List Int}, Ord c P → Ord c Q → (∀ p q, P.getLast? = some p → Q.head? = some q → ¬ (0 < c q ∧ c q < c p)) → Ord c (P ++ Q)
  | [], _, _, hQ, _ => hQ
  | [p], [], _, _, _ => trivial
  | [p], q :: Q, _, hQ, h => ⟨h p q rfl rfl, hQ⟩
  | x :: y :: P, Q, hP, hQ, h => ⟨hP.1, ord_app (P := y :: P) hP.2 hQ (fun p q h1 h2 => h p q (by simpa using h1) h2)⟩
theorem ord_zero {c : Int → Int} : ∀ {Z : List Int}, (∀ z ∈ Z, c z = 0) → Ord c Z
  | [], _ => trivial
  | [_], _ => trivial
  | x :: y :: Z, h => ⟨by have := h y (by simp); omega, ord_zero (fun z hz => h z (by simp [hz]))⟩
/-- What is in order, starters, and what is in order are in order. -/
theorem ord_glue {c : Int → Int} (hc : ∀ x, 0 ≤ c x) {P Z M : List Int} (hP : Ord c P) (hZ : ∀ z ∈ Z, c z = 0) (hM : Ord c M) (h : Z ≠ [] ∨ P = []) : Ord c (P ++ Z ++ M) := by
  rcases h with h | h
  · refine ord_app (ord_app hP (ord_zero hZ) (fun p q h1 h2 => ?_)) hM (fun p q h1 h2 => ?_)
    · have := hZ q (List.mem_of_mem_head? h2); omega
    · rw [List.getLast?_append] at h1
      obtain ⟨z, hz⟩ : ∃ z, Z.getLast? = some z := ⟨Z.getLast h, List.getLast?_eq_some_getLast h⟩
      rw [hz] at h1
      simp at h1
      have h3 := hZ p (by rw [← h1]; exact List.mem_of_getLast? hz)
      have := hc q
      omega
  · subst h
    refine ord_app (ord_zero (by simpa using hZ)) hM (fun p q h1 h2 => ?_)
    have h3 := hZ p (by simpa using List.mem_of_getLast? h1)
    have := hc q
    omega

/-- How far a row has been put in order. -/
def Upto (c : Int → Int) (zs : List Int) (e : Nat) (R : List Int) : Prop := Sw c zs R ∧ R.drop e = zs.drop e ∧ Ord c (R.take e)
theorem Upto.start (c : Int → Int) (zs : List Int) : Upto c zs 0 zs := ⟨.refl _, rfl, trivial⟩
theorem mem_seg {l : List Int} {f t : Nat} {x : Int} (h : x ∈ (l.take t).drop f) : ∃ i, ∃ hi : i < l.length, f ≤ i ∧ i < t ∧ l[i] = x := by
  obtain ⟨i, hi, e⟩ := List.mem_iff_getElem.1 h
  rw [List.length_drop, List.length_take] at hi
  refine ⟨f + i, by omega, by omega, by omega, ?_⟩
  rw [← e, List.getElem_drop, List.getElem_take]
theorem seg_eq {R zs : List Int} {e f t : Nat} (h : R.drop e = zs.drop e) (hef : e ≤ f) : (R.take t).drop f = (zs.take t).drop f := by
  rw [List.drop_take, List.drop_take]
  congr 1
  have : (R.drop e).drop (f - e) = (zs.drop e).drop (f - e) := by rw [h]
  rwa [List.drop_drop, List.drop_drop, show e + (f - e) = f by omega] at this
theorem Upto.next {c : Int → Int} (hc : ∀ x, 0 ≤ c x) {zs R : List Int} {pre : List (Nat × Nat)} {f t : Nat} (h : Upto c zs (endOf pre) R) (hx : NextR c zs pre (f, t)) :
    R = R.take f ++ (R.take t).drop f ++ R.drop t ∧ (R.take f).length = f ∧ ((R.take t).drop f).length = t - f ∧ (∀ x ∈ (R.take t).drop f, 0 < c x) ∧ Upto c zs (endOf (pre ++ [(f, t)])) (R.take f ++ srt c ((R.take t).drop f) ++ R.drop t) := by
  obtain ⟨h1, h2, h3⟩ := h
  obtain ⟨x1, x2, x3, x4, x5, x6⟩ := hx
  simp only at x1 x2 x3 x4 x5 x6
  have hlen := h1.len
  have e0 : R = R.take f ++ (R.take t).drop f ++ R.drop t := by
    have e1 : R.take t = R.take f ++ (R.take t).drop f := by
      conv => lhs; rw [← List.take_append_drop f (R.take t)]
      rw [List.take_take, Nat.min_eq_left (by omega)]
    rw [← e1, List.take_append_drop]
  have e2 : (R.take f).length = f := by rw [List.length_take]; omega
  have e3 : ((R.take t).drop f).length = t - f := by rw [List.length_drop, List.length_take]; omega
  have hs := seg_eq (t := t) h2 x1
  have hp : ∀ x ∈ (R.take t).drop f, 0 < c x := by
    intro x hx
    rw [hs] at hx
    obtain ⟨i, hi, a1, a2, rfl⟩ := mem_seg hx
    have := x5 i hi a1 a2
    have := hc zs[i]
    omega
  have e4 : (srt c ((R.take t).drop f)).length = t - f := by rw [(sw_srt c _).len, e3]
  refine ⟨e0, e2, e3, hp, ?_, ?_, ?_⟩
  · refine h1.trans ?_
    conv => lhs; rw [e0]
    exact (sw_srt c _).ctx _ _
  · rw [endOf_snoc]
    show List.drop t _ = List.drop t _
    rw [List.drop_append_of_le_length (by rw [List.length_append]; omega), List.drop_eq_nil_of_le (by rw [List.length_append]; omega), List.nil_append]
    have : (R.drop (endOf pre)).drop (t - endOf pre) = (zs.drop (endOf pre)).drop (t - endOf pre) := by rw [h2]
    rwa [List.drop_drop, List.drop_drop, show endOf pre + (t - endOf pre) = t by omega] at this
  · rw [endOf_snoc]
    show Ord c (List.take t _)
    rw [List.take_append_of_le_length (by rw [List.length_append]; omega), List.take_of_length_le (by rw [List.length_append]; omega)]
    have e5 : R.take f = R.take (endOf pre) ++ (R.take f).drop (endOf pre) := by
      conv => lhs; rw [← List.take_append_drop (endOf pre) (R.take f)]
      rw [List.take_take, Nat.min_eq_left x1]
    rw [e5]
    refine ord_glue hc h3 (fun z hz => ?_) (ord_srt c _) ?_
    · rw [seg_eq (t := f) h2 (Nat.le_refl _)] at hz
      obtain ⟨i, hi, a1, a2, rfl⟩ := mem_seg hz
      exact x4 i hi a1 a2
    · rcases x6 with h | h
      · right; rw [h]; rfl
      · left
        intro e
        have := congrArg List.length e
        rw [List.length_drop, List.length_take] at this
        simp at this; omega
theorem Upto.fin {c : Int → Int} {zs R : List Int} {xs : List (Nat × Nat)} (h : Upto c zs (endOf xs) R) (hx : AllR c zs xs) : R = srt c zs := by
  refine h.1.fin ?_
  have e : R = R.take (endOf xs) ++ R.drop (endOf xs) := (List.take_append_drop _ _).symm
  have hz : ∀ z ∈ R.drop (endOf xs), c z = 0 := by
    intro z hz
    rw [h.2.1] at hz
    obtain ⟨i, hi, e⟩ := List.mem_iff_getElem.1 hz
    rw [List.length_drop] at hi
    rw [← e, List.getElem_drop]
    exact hx.2 _ (by omega) (by omega)
  rw [e]
  refine ord_app h.2.2 (ord_zero hz) (fun p q h1 h2 => ?_)
  have := hz q (List.mem_of_mem_head? h2)
  omega

/-- What Sort keeps. -/
structure SoI (w : World) (b : Nat) (zs : List Int) (ao : Option Addr) (cap o2 o5 pl pb : Nat) (pre : List (Nat × Nat)) (W : World) : Prop where
  bel : Below w.heap.size w W
  b2 : Bx W o2 (.pointer (some ⟨b, 0, none⟩)) 23
  b5 : Bx W o5 (.slice ao zs.length cap) 22
  bl : Bx W pl (.slice ao zs.length cap) 22
  bb : Bx W pb (.pointer (some ⟨b, 0, none⟩)) 23
  row : zs = [] ∨ ∃ g T R, ao = some ⟨g, 0, none⟩ ∧ w.heap.size ≤ g ∧ g ≠ o2 ∧ g ≠ o5 ∧ g ≠ pl ∧ g ≠ pb ∧ Blk W g R T ∧ Upto clsP zs (endOf pre) R
theorem SoI.keep {w : World} {b : Nat} {zs : List Int} {ao : Option Addr} {cap o2 o5 pl pb N : Nat} {pre : List (Nat × Nat)} {A B : World} (h : SoI w b zs ao cap o2 o5 pl pb pre A) (hk : Kc N A B) (hN : w.heap.size ≤ N) : SoI w b zs ao cap o2 o5 pl pb pre B :=
  ⟨hk.below h.bel hN (Nat.le_refl _), hk.bx h.b2, hk.bx h.b5, hk.bx h.bl, hk.bx h.bb, by
    rcases h.row with h | ⟨g, T, R, h1, h2, h3, h4, h5, h6, h7, h8⟩
    · exact .inl h
    · exact .inr ⟨g, T, R, h1, h2, h3, h4, h5, h6, hk.blk h7, h8⟩⟩
theorem SoI.ne {w : World} {b : Nat} {zs : List Int} {ao : Option Addr} {cap o2 o5 pl pb : Nat} {pre : List (Nat × Nat)} {A : World} (hB : Bk w b) (h : SoI w b zs ao cap o2 o5 pl pb pre A) : NeR b ao cap pl pb zs pre A :=
  ⟨hB.step h.bel, h.bl, h.bb, fun i hi he => by
    rcases h.row with h | ⟨g, T, R, h1, h2, _, _, _, _, h7, h8⟩
    · subst h; simp at hi
    · refine ⟨g, 0, h1, ?_⟩
      rw [Nat.zero_add]
      refine h7.cell _ _ ?_
      have := congrArg (fun l => l[i - endOf pre]?) h8.2.1
      simp only [List.getElem?_drop] at this
      rw [show endOf pre + (i - endOf pre) = i by omega] at this
      rw [this, List.getElem?_eq_getElem hi]⟩
end Od
end Go.Proofs.Ytemdmalcoemhnaa
