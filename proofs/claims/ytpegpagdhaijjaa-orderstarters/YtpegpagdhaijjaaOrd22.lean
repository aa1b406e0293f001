import Derived.Test.YtpegpagdhaijjaaOrd21
namespace Go.Proofs.Ytpegpagdhaijjaa
namespace Od
open Go.RowKit

section
variable (c : Int → Int)
theorem ins_stop (x s : Int) (hs : c s = 0) (B : List Int) : ∀ A, ins c x (A ++ s :: B) = ins c x A ++ s :: B
  | [] => by
    simp only [List.nil_append, ins]
    rw [if_neg (by omega)]
    rfl
  | y :: A => by
    simp only [List.cons_append, ins]
    split
    · rw [ins_stop x s hs B A]; rfl
    · rfl
theorem ins_zero (hc : ∀ x, 0 ≤ c x) (s : Int) (hs : c s = 0) : ∀ l, ins c s l = s :: l
  | [] => rfl
  | y :: l => by
    have := hc y
    simp only [ins]
    rw [if_neg (by omega)]
theorem srt_cut (hc : ∀ x, 0 ≤ c x) (s : Int) (hs : c s = 0) (B : List Int) : ∀ A, srt c (A ++ s :: B) = srt c A ++ s :: srt c B
  | [] => ins_zero c hc s hs _
  | x :: A => by
    simp only [List.cons_append, srt]
    rw [srt_cut hc s hs B A, ins_stop c x s hs]
theorem srt_len (l : List Int) : (srt c l).length = l.length := (sw_srt c l).len
/-- What has class 0 stays where it is. -/
theorem srt_at0 (hc : ∀ x, 0 ≤ c x) (l : List Int) (i : Nat) (h : i < l.length) (h0 : c l[i] = 0) : (srt c l)[i]? = some l[i] := by
  have e : l = l.take i ++ l[i] :: l.drop (i + 1) := by rw [← List.drop_eq_getElem_cons h, List.take_append_drop]
  have e2 : (srt c (l.take i)).length = i := by rw [srt_len, List.length_take]; omega
  have e3 : srt c l = srt c (l.take i) ++ l[i] :: srt c (l.drop (i + 1)) := by
    conv => lhs; rw [e]
    exact srt_cut c hc _ h0 _ _
  rw [e3, List.getElem?_append_right (by omega), e2, Nat.sub_self]
  rfl

/-- A run, and what stands about it. -/
def RunOk (l : List Int) (x : Nat × Nat) : Prop := x.1 < x.2 ∧ x.2 ≤ l.length ∧ (x.1 = 0 ∨ c (l.getD (x.1 - 1) 0) = 0) ∧ (x.2 = l.length ∨ c (l.getD x.2 0) = 0)
theorem getD_at {l : List Int} {k : Nat} (h : k < l.length) : l.getD k 0 = l[k] := by rw [List.getD_eq_getElem?_getD, List.getElem?_eq_getElem h]; rfl
theorem st_ok (l : List Int) : ∀ k, k ≤ l.length → (∀ x ∈ (stR c (l.take k)).1, RunOk c l x) ∧ (∀ f, (stR c (l.take k)).2.1 = some f → f < k ∧ (f = 0 ∨ c (l.getD (f - 1) 0) = 0)) ∧ ((stR c (l.take k)).2.1 = none → k = 0 ∨ c (l.getD (k - 1) 0) = 0) ∧ (stR c (l.take k)).2.2 = k
  | 0, _ => ⟨fun x hx => by simp [stR] at hx, fun f hf => by simp [stR] at hf, fun _ => .inl rfl, rfl⟩
  | k + 1, h => by
    obtain ⟨h1, h2, h3, h4⟩ := st_ok l k (by omega)
    have hk : k < l.length := by omega
    rw [stR_take c l k hk]
    generalize stR c (l.take k) = s at *
    obtain ⟨dn, op, n⟩ := s
    simp only at h1 h2 h3 h4
    subst h4
    unfold stepR
    by_cases h0 : c l[n] = 0
    · rw [if_pos h0]
      refine ⟨fun x hx => ?_, fun f hf => by simp at hf, fun _ => .inr ?_, rfl⟩
      · cases op with
        | none => exact h1 x hx
        | some f =>
          rcases List.mem_append.1 hx with hx | hx
          · exact h1 x hx
          · simp at hx
            subst hx
            obtain ⟨a1, a2⟩ := h2 f rfl
            exact ⟨a1, by simp; omega, a2, .inr (by rw [getD_at hk]; exact h0)⟩
      · rw [Nat.add_sub_cancel, getD_at hk]; exact h0
    · rw [if_neg h0]
      refine ⟨h1, fun f hf => ?_, fun hf => by simp at hf, rfl⟩
      cases op with
      | none =>
        simp at hf
        subst hf
        exact ⟨Nat.lt_succ_self _, h3 rfl⟩
      | some g =>
        simp at hf
        subst hf
        obtain ⟨a1, a2⟩ := h2 g rfl
        exact ⟨by omega, a2⟩
theorem runs_ok (l : List Int) : ∀ x ∈ runsP c l, RunOk c l x := by
  intro x hx
  obtain ⟨h1, h2, h3, h4⟩ := st_ok c l l.length (Nat.le_refl _)
  rw [List.take_length] at h1 h2 h3 h4
  unfold runsP finR at hx
  generalize stR c l = s at *
  obtain ⟨dn, op, n⟩ := s
  simp only at h1 h2 h3 h4 hx
  cases op with
  | none => exact h1 x hx
  | some f =>
    rcases List.mem_append.1 hx with hx | hx
    · exact h1 x hx
    · simp at hx
      subst hx h4
      obtain ⟨a1, a2⟩ := h2 f rfl
      exact ⟨a1, Nat.le_refl _, a2, .inl rfl⟩
theorem srt_app1 (hc : ∀ x, 0 ≤ c x) (X Q : List Int) (h : ∀ s, Q.head? = some s → c s = 0) : srt c (X ++ Q) = srt c X ++ srt c Q := by
  cases Q with
  | nil => simp [srt]
  | cons s Q =>
    have hs := h s rfl
    rw [srt_cut c hc s hs]
    simp only [srt]
    rw [ins_zero c hc s hs]
theorem srt_app2 (hc : ∀ x, 0 ≤ c x) (P R : List Int) (h : ∀ s, P.getLast? = some s → c s = 0) : srt c (P ++ R) = srt c P ++ srt c R := by
  by_cases hp : P = []
  · subst hp; rfl
  · obtain ⟨P', s, rfl⟩ : ∃ P' s, P = P' ++ [s] := ⟨P.dropLast, P.getLast hp, (List.dropLast_concat_getLast hp).symm⟩
    have hs := h s (by simp)
    rw [List.append_assoc, List.singleton_append, srt_cut c hc s hs, srt_cut c hc s hs]
    simp [srt]
/-- Each run has the code points that it had. -/
theorem run_perm (hc : ∀ x, 0 ≤ c x) (l : List Int) (f t : Nat) (h : RunOk c l (f, t)) : ((l.take t).drop f).Perm (((srt c l).take t).drop f) := by
  obtain ⟨h1, h2, h3, h4⟩ := h
  simp only at h1 h2 h3 h4
  have e0 : l = l.take f ++ ((l.take t).drop f ++ l.drop t) := by
    have e1 : l.take t = l.take f ++ (l.take t).drop f := by
      conv => lhs; rw [← List.take_append_drop f (l.take t)]
      rw [List.take_take, Nat.min_eq_left (by omega)]
    rw [← List.append_assoc, ← e1, List.take_append_drop]
  have e2 : srt c l = srt c (l.take f) ++ (srt c ((l.take t).drop f) ++ srt c (l.drop t)) := by
    conv => lhs; rw [e0]
    rw [srt_app2 c hc, srt_app1 c hc]
    · intro s hs
      rw [List.head?_drop] at hs
      rcases h4 with h4 | h4
      · rw [h4, List.getElem?_eq_none (Nat.le_refl _)] at hs; cases hs
      · rw [List.getD_eq_getElem?_getD, hs] at h4; exact h4
    · intro s hs
      by_cases hf0 : f = 0
      · rw [hf0] at hs; simp at hs
      · have h3 : c (l.getD (f - 1) 0) = 0 := by
          rcases h3 with h3 | h3
          · exact absurd h3 hf0
          · exact h3
        rw [List.getLast?_eq_getElem?, List.length_take, Nat.min_eq_left (by omega), List.getElem?_take_of_lt (by omega)] at hs
        rw [List.getD_eq_getElem?_getD, hs] at h3; exact h3
  have l1 : (srt c (l.take f)).length = f := by rw [srt_len, List.length_take]; omega
  have l2 : (srt c ((l.take t).drop f)).length = t - f := by rw [srt_len, List.length_drop, List.length_take]; omega
  have e3 : ((srt c l).take t).drop f = srt c ((l.take t).drop f) := by
    rw [e2, List.take_append, List.take_append, List.take_of_length_le (by omega), List.drop_append_of_le_length (by omega), List.drop_eq_nil_of_le (by omega), List.nil_append, List.take_of_length_le (by omega), show t - (srt c (l.take f)).length - (srt c ((l.take t).drop f)).length = 0 by omega]
    simp
  rw [e3]
  exact (sw_srt c _).perm
end

theorem st_len (c : Int → Int) (l : List Int) : ∀ k, k ≤ l.length → (stR c (l.take k)).1.length ≤ k
  | 0, _ => Nat.le_refl _
  | k + 1, h => by
    have ih := st_len c l k (by omega)
    rw [stR_take c l k (by omega)]
    generalize stR c (l.take k) = s at *
    obtain ⟨dn, op, n⟩ := s
    simp only at ih
    unfold stepR
    split
    · cases op with
      | none => simp only; omega
      | some f => simp only [List.length_append, List.length_cons, List.length_nil]; omega
    · simp only; omega
theorem runs_len (c : Int → Int) (l : List Int) : (runsP c l).length ≤ l.length + 1 := by
  have h := st_len c l l.length (Nat.le_refl _)
  rw [List.take_length] at h
  unfold runsP finR
  generalize stR c l = s at *
  obtain ⟨dn, op, n⟩ := s
  simp only at h
  cases op with
  | none => simp only; omega
  | some f => simp only [List.length_append, List.length_cons, List.length_nil]; omega
/-- How often a number stands in a part. -/
def cntI (l : List Int) (f i : Nat) (v : Int) : Int := (((l.take i).drop f).count v : Nat)
theorem cntI_start (l : List Int) (f : Nat) (v : Int) : cntI l f f v = 0 := by
  unfold cntI
  rw [List.drop_eq_nil_of_le (by rw [List.length_take]; omega)]; rfl
theorem cntI_succ (l : List Int) (f i : Nat) (v : Int) (hf : f ≤ i) (hi : i < l.length) : cntI l f (i + 1) v = cntI l f i v + if l[i] = v then 1 else 0 := by
  unfold cntI
  rw [List.take_succ_eq_append_getElem hi, List.drop_append_of_le_length (by rw [List.length_take]; omega), List.count_append, List.count_singleton]
  by_cases h : l[i] = v
  · simp [h]
  · simp [h]
theorem cntI_bd (l : List Int) (f i : Nat) (v : Int) : 0 ≤ cntI l f i v ∧ cntI l f i v ≤ l.length := by
  unfold cntI
  have h1 := List.count_le_length (a := v) (l := (l.take i).drop f)
  have h2 : ((l.take i).drop f).length ≤ l.length := by rw [List.length_drop, List.length_take]; omega
  omega
theorem cntI_run {zs : List Int} {f t : Nat} (h : (f, t) ∈ runsP clsP zs) (v : Int) : cntI zs f t v = cntI (srt clsP zs) f t v := by
  unfold cntI
  rw [(run_perm clsP (fun x => (cls_bd x).1) zs f t (runs_ok clsP zs _ h)).count_eq v]
theorem runs_bd {zs : List Int} {f t : Nat} (h : (f, t) ∈ runsP clsP zs) : f < t ∧ t ≤ zs.length := ⟨(runs_ok clsP zs _ h).1, (runs_ok clsP zs _ h).2.1⟩
end Od
end Go.Proofs.Ytpegpagdhaijjaa
