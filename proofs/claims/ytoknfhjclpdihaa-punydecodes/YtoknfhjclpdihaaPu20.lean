import Derived.Test.YtoknfhjclpdihaaPu19
namespace Go.Proofs.Ytoknfhjclpdihaa
namespace Pu
open Go.RowKit Od

/-- A number put in at a place. -/
def insA (l : List Int) (p : Nat) (c : Int) : List Int := l.take p ++ c :: l.drop p
/-- Entries put in one after the other. -/
def putL (low : List Int) (es : List Ent) : List Int := es.foldl (fun l e => insA l e.2.toNat e.1) low
theorem insA_len (l : List Int) (p : Nat) (c : Int) : (insA l p c).length = l.length + 1 := by
  unfold insA
  simp
  omega
theorem putL_len : ∀ (es : List Ent) (low : List Int), (putL low es).length = low.length + es.length
  | [], low => rfl
  | e :: es, low => by
    show (putL (insA low e.2.toNat e.1) es).length = _
    rw [putL_len es, insA_len, List.length_cons]
    omega
theorem putL_snoc (low : List Int) (es : List Ent) (e : Ent) : putL low (es ++ [e]) = insA (putL low es) e.2.toNat e.1 := by
  unfold putL
  rw [List.foldl_append]
  rfl

/-- Which places are free: those of a zero. -/
def fr (O : List Int) : List Int := O.map fun o => if o = 0 then 1 else 0
/-- The free places filled from a list. -/
def mg : List Int → List Int → List Int
  | [], _ => []
  | o :: O, M => if o = 0 then M.headD 0 :: mg O M.tail else o :: mg O M
theorem mg_len : ∀ (O M : List Int), (mg O M).length = O.length
  | [], _ => rfl
  | o :: O, M => by
    unfold mg
    split <;> simp [mg_len O]
theorem fr_len (O : List Int) : (fr O).length = O.length := by unfold fr; rw [List.length_map]
theorem fr_bd (O : List Int) : ∀ x ∈ fr O, 0 ≤ x ∧ x ≤ 1 := by
  intro x hx
  unfold fr at hx
  obtain ⟨o, _, rfl⟩ := List.mem_map.1 hx
  split <;> omega
theorem ps_cons (x : Int) (a : List Int) (q : Nat) : ps (x :: a) (q + 1) = x + ps a q := by
  unfold ps
  rw [List.take_succ_cons, List.sum_cons]
theorem ps_0 (a : List Int) : ps a 0 = 0 := by unfold ps; simp
theorem mg_zero : ∀ (n : Nat) (M : List Int), M.length = n → mg (List.replicate n 0) M = M
  | 0, [], _ => rfl
  | n + 1, m :: M, h => by
    rw [List.replicate_succ]
    unfold mg
    rw [if_pos rfl]
    show m :: mg _ M = _
    rw [mg_zero n M (by simpa using h)]
  | 0, _ :: _, h => by simp at h
  | _ + 1, [], h => by simp at h
theorem mg_ins : ∀ (O M : List Int) (p q : Nat) (c : Int), c ≠ 0 → (hq : q < O.length) → O[q] = 0 → ps (fr O) q = p → p ≤ M.length → mg O (insA M p c) = mg (O.set q c) M
  | [], _, _, _, _, _, hq, _, _, _ => by simp at hq
  | o :: O, M, p, 0, c, hc, hq, h0, hp, hM => by
    rw [ps_0] at hp
    have : p = 0 := by omega
    subst this
    have h0 : o = 0 := h0
    subst h0
    show mg (0 :: O) (c :: M) = mg (c :: O) M
    rw [mg, mg, if_pos rfl, if_neg hc]
    rfl
  | o :: O, M, p, q + 1, c, hc, hq, h0, hp, hM => by
    have hq' : q < O.length := by simpa using hq
    have h0' : O[q] = 0 := h0
    have e : fr (o :: O) = (if o = 0 then 1 else 0) :: fr O := rfl
    rw [e, ps_cons] at hp
    show mg (o :: O) _ = mg (o :: O.set q c) M
    by_cases ho : o = 0
    · subst ho
      rw [if_pos rfl] at hp
      have hb := (ps_bd (fr O) (fr_bd O) q).1
      cases p with
      | zero => exfalso; omega
      | succ p =>
        cases M with
        | nil => simp at hM
        | cons m M =>
          rw [show insA (m :: M) (p + 1) c = m :: insA M p c from rfl, mg, mg, if_pos rfl, if_pos rfl]
          show m :: mg O (insA M p c) = m :: mg (O.set q c) M
          rw [mg_ins O M p q c hc hq' h0' (by omega) (by simpa using hM)]
    · rw [if_neg ho] at hp
      rw [mg, mg, if_neg ho, if_neg ho, mg_ins O M p q c hc hq' h0' (by omega) hM]
theorem fr_set (O : List Int) (q : Nat) (c : Int) (hc : c ≠ 0) : fr (O.set q c) = (fr O).set q 0 := by
  unfold fr
  rw [List.map_set, if_neg hc]
theorem fr_get (O : List Int) (q : Nat) (h : q < (fr O).length) : (fr O)[q] = if O[q]'(by rw [fr_len] at h; exact h) = 0 then 1 else 0 := by
  exact List.getElem_map _

/-- What an entry is, so many standing ahead of the first. -/
def EntOk (low : Nat) (es : List Ent) : Prop := ∀ k (h : k < es.length), 128 ≤ es[k].1 ∧ es[k].1 ≤ 1114111 ∧ 0 ≤ es[k].2 ∧ es[k].2 ≤ (low : Int) + k
/-- What holds once so many entries are still to be put in: each that was put stands at its place in the end. -/
structure PI (low : List Int) (es : List Ent) (j : Nat) (O : List Int) : Prop where
  len : O.length = low.length + es.length
  fin : mg O (putL low (es.take j)) = putL low es
  cnt : ps (fr O) O.length = low.length + j
  big : ∀ x ∈ O, x = 0 ∨ (128 ≤ x ∧ x ≤ 1114111)
theorem ps_ones : ∀ (n : Nat), ps (fr (List.replicate n 0)) n = n
  | 0 => rfl
  | n + 1 => by
    rw [List.replicate_succ]
    show ps (1 :: fr (List.replicate n 0)) (n + 1) = _
    rw [ps_cons, ps_ones n]
    omega
theorem PI.start (low : List Int) (es : List Ent) : PI low es es.length (List.replicate (low.length + es.length) 0) := by
  refine ⟨by simp, ?_, ?_, ?_⟩
  · rw [List.take_length]
    exact mg_zero _ _ (putL_len es low)
  · rw [List.length_replicate, ps_ones]
    omega
  · intro x hx
    exact .inl (List.eq_of_mem_replicate hx)
theorem PI.step {low : List Int} {es : List Ent} {j q : Nat} {O : List Int} (h : PI low es (j + 1) O) (hj : j < es.length) (ho : EntOk low.length es) (ha : At1 (fr O) q es[j].2) : PI low es j (O.set q es[j].1) ∧ At1 (fr O) q es[j].2 := by
  obtain ⟨h1, h2, h3, h4⟩ := h
  obtain ⟨e1, e2, e3, e4⟩ := ho j hj
  refine ⟨?_, ha⟩
  obtain ⟨hq, hp, h1'⟩ := ha
  have hq' : q < O.length := by rw [fr_len] at hq; exact hq
  have hz : O[q] = 0 := by
    rw [fr_get] at h1'
    split at h1'
    · assumption
    · omega
  have hc : es[j].1 ≠ 0 := by omega
  have ht : es.take (j + 1) = es.take j ++ [es[j]] := by rw [List.take_add_one, List.getElem?_eq_getElem hj]; rfl
  have hl : (es.take j).length = j := by rw [List.length_take]; omega
  refine ⟨by rw [List.length_set]; exact h1, ?_, ?_, ?_⟩
  · rw [ht, putL_snoc] at h2
    rw [← mg_ins O _ es[j].2.toNat q _ hc hq' hz (by omega) (by rw [putL_len, hl]; omega)]
    exact h2
  · rw [List.length_set, fr_set _ _ _ hc, ps_set _ _ _ hq, if_pos (by omega), h1', h3]
    omega
  · intro x hx
    rcases List.mem_or_eq_of_mem_set hx with hx | hx
    · exact h4 x hx
    · subst hx; exact .inr ⟨e1, e2⟩
theorem PI.tell {low : List Int} {es : List Ent} {j : Nat} {O : List Int} (h : PI low es (j + 1) O) (hj : j < es.length) (ho : EntOk low.length es) : 0 ≤ es[j].2 ∧ es[j].2 < ps (fr O) (fr O).length := by
  obtain ⟨e1, e2, e3, e4⟩ := ho j hj
  rw [fr_len, h.cnt]
  omega
end Pu
end Go.Proofs.Ytoknfhjclpdihaa
