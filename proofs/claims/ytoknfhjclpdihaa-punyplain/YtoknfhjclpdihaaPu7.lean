import Derived.Test.YtoknfhjclpdihaaPu6
namespace Go.Proofs.Ytoknfhjclpdihaa
namespace Pu
open Go.RowKit Od

/-- By code point, and of one code point by place. -/
def Lex (c : Int → Int) (a b : Int) : Prop := c a < c b ∨ (c a = c b ∧ a < b)
theorem ins_lex (c : Int → Int) (x : Int) : ∀ (l : List Int), (∀ y ∈ l, 0 < c y) → (∀ y ∈ l, x < y) → l.Pairwise (Lex c) → (ins c x l).Pairwise (Lex c) ∧ ∀ y, y ∈ ins c x l ↔ y = x ∨ y ∈ l
  | [], _, _, _ => ⟨List.pairwise_singleton _ _, fun y => by simp [ins]⟩
  | z :: l, hp, hx, hl => by
    have hc := List.pairwise_cons.1 hl
    obtain ⟨ih1, ih2⟩ := ins_lex c x l (fun y hy => hp y (by simp [hy])) (fun y hy => hx y (by simp [hy])) hc.2
    unfold ins
    split
    · rename_i h
      refine ⟨List.pairwise_cons.2 ⟨fun y hy => ?_, ih1⟩, fun y => ?_⟩
      · rcases (ih2 y).1 hy with rfl | hy
        · exact .inl h.2
        · exact hc.1 y hy
      · rw [List.mem_cons, ih2, List.mem_cons]
        constructor
        · rintro (h | h | h)
          · exact .inr (.inl h)
          · exact .inl h
          · exact .inr (.inr h)
        · rintro (h | h | h)
          · exact .inr (.inl h)
          · exact .inl h
          · exact .inr (.inr h)
    · rename_i h
      have hz := hp z (by simp)
      refine ⟨List.pairwise_cons.2 ⟨fun y hy => ?_, hl⟩, fun y => List.mem_cons⟩
      have hxz : Lex c x z := by
        have := hx z (by simp)
        rcases Int.lt_trichotomy (c x) (c z) with h1 | h1 | h1
        · exact .inl h1
        · exact .inr ⟨h1, this⟩
        · exact absurd ⟨hz, h1⟩ h
      rcases List.mem_cons.1 hy with rfl | hy
      · exact hxz
      · have h1 := hc.1 y hy
        have h2 := hx y (by simp [hy])
        rcases hxz with a | a <;> rcases h1 with b | b
        · exact .inl (by omega)
        · exact .inl (by omega)
        · exact .inl (by omega)
        · exact .inr ⟨by omega, h2⟩
theorem srt_lex (c : Int → Int) : ∀ (l : List Int), (∀ y ∈ l, 0 < c y) → l.Pairwise (· < ·) → (srt c l).Pairwise (Lex c) ∧ ∀ y, y ∈ srt c l ↔ y ∈ l
  | [], _, _ => ⟨List.Pairwise.nil, fun y => Iff.rfl⟩
  | x :: l, hp, hl => by
    have hc := List.pairwise_cons.1 hl
    obtain ⟨ih1, ih2⟩ := srt_lex c l (fun y hy => hp y (by simp [hy])) hc.2
    obtain ⟨h1, h2⟩ := ins_lex c x (srt c l) (fun y hy => hp y (by simp [(ih2 y).1 hy])) (fun y hy => hc.1 y ((ih2 y).1 hy)) ih1
    refine ⟨h1, fun y => ?_⟩
    show y ∈ ins c x (srt c l) ↔ _
    rw [h2, ih2, List.mem_cons]
theorem posL_pw (zs : List Int) : ∀ k, (posL zs k).Pairwise (· < ·)
  | 0 => by simp [posL]
  | k + 1 => by
    rw [posL_succ]
    split
    · refine List.pairwise_append.2 ⟨posL_pw zs k, List.pairwise_singleton _ _, fun a ha b hb => ?_⟩
      obtain ⟨i, rfl, hi, _⟩ := posL_mem ha
      simp at hb
      omega
    · rw [List.append_nil]; exact posL_pw zs k
theorem posL_mem' {zs : List Int} {k i : Nat} (h1 : i < k) (h2 : 128 ≤ zs.getD i 0) : (i : Int) ∈ posL zs k := by
  unfold posL
  exact List.mem_map.2 ⟨i, List.mem_filter.2 ⟨List.mem_range.2 h1, decide_eq_true h2⟩, rfl⟩
theorem ky_pos {zs : List Int} {x : Int} {k : Nat} (h : x ∈ posL zs k) : 128 ≤ kyP zs x := by
  obtain ⟨i, rfl, _, h2⟩ := posL_mem h
  unfold kyP
  rw [if_pos (by omega), Int.toNat_natCast]; exact h2
theorem ord_lex (zs : List Int) : (ordL zs).Pairwise (Lex (kyP zs)) ∧ ∀ y, y ∈ ordL zs ↔ y ∈ posL zs zs.length :=
  srt_lex (kyP zs) _ (fun y hy => by have := ky_pos hy; omega) (posL_pw zs _)

theorem ps_mono (a : List Int) (h : ∀ x ∈ a, 0 ≤ x ∧ x ≤ 1) : ∀ (p q : Nat), p ≤ q → ps a p ≤ ps a q
  | p, 0, hq => by have : p = 0 := by omega
                   subst this; exact Int.le_refl _
  | p, q + 1, hq => by
    by_cases e : p = q + 1
    · subst e; exact Int.le_refl _
    · have ih := ps_mono a h p q (by omega)
      by_cases hl : q < a.length
      · rw [ps_succ _ _ hl]
        have := h a[q] (List.getElem_mem hl)
        omega
      · have e2 : ps a (q + 1) = ps a q := by unfold ps; rw [List.take_of_length_le (by omega), List.take_of_length_le (by omega)]
        omega

/-- What is held while the deltas are written. -/
structure ES where
  n : Int
  place : Int
  bias : Int
  st : Nat
  a : List Int
  out : List Int
  i : Nat
def ES.d (zs : List Int) (s : ES) (at_ : Int) : Int := (kyP zs at_ - s.n) * ((s.st : Int) + 1) + (ps s.a at_.toNat - s.place)
def ES.step (zs : List Int) (s : ES) (at_ : Int) : ES :=
  { n := kyP zs at_, place := ps s.a at_.toNat + 1, bias := (adP (s.d zs at_).toNat (s.st + 1) (s.i == 0) : Nat), st := s.st + 1, a := s.a.set at_.toNat 1, out := s.out ++ wrP (s.d zs at_) s.bias, i := s.i + 1 }
/-- The low ones. -/
def lowL (zs : List Int) : List Int := zs.filter (fun z => decide (z < 128))
def lowA (zs : List Int) : List Int := zs.map (fun z => if z < 128 then 1 else 0)
def ES.start (zs : List Int) : ES := { n := 128, place := 0, bias := 72, st := (lowL zs).length, a := lowA zs, out := if (lowL zs).length = 0 then [] else lowL zs ++ [45], i := 0 }
/-- All deltas. -/
def encP (zs : List Int) : List Int := ((ordL zs).foldl (ES.step zs) (ES.start zs)).out

/-- What holds while the deltas are written. -/
structure ES.Ok (zs : List Int) (s : ES) (rest : List Int) : Prop where
  len : s.a.length = zs.length
  bd : ∀ x ∈ s.a, 0 ≤ x ∧ x ≤ 1
  sum : ps s.a zs.length = (s.st : Int)
  n0 : 128 ≤ s.n
  p0 : 0 ≤ s.place
  p1 : s.place ≤ s.st
  b0 : 0 ≤ s.bias
  b1 : s.bias ≤ 500000000
  lex : rest.Pairwise (Lex (kyP zs))
  rest : ∀ p ∈ rest, ∃ q : Nat, p = q ∧ q < zs.length ∧ s.a.getD q 0 = 0 ∧ s.n ≤ kyP zs p ∧ kyP zs p ≤ 1114111 ∧ (kyP zs p = s.n → s.place ≤ ps s.a q)
theorem ad_le (d c : Nat) (f : Bool) : adP d c f ≤ 2 * d + 36 := by
  unfold adP
  have h := adN_le _ ((if f = true then d / 700 else d / 2) + (if f = true then d / 700 else d / 2) / c) 0 (Nat.le_refl _)
  have h2 : (if f = true then d / 700 else d / 2) ≤ d := by split <;> omega
  have h3 := Nat.div_le_self (if f = true then d / 700 else d / 2) c
  show adN _ 0 ≤ _
  omega
theorem ES.Ok.head {zs : List Int} {s : ES} {p : Int} {rest : List Int} (h : s.Ok zs (p :: rest)) (hl : zs.length ≤ 127) : 0 ≤ s.d zs p ∧ s.d zs p ≤ 200000000 ∧ (kyP zs p - s.n) * ((s.st : Int) + 1) ≤ 150000000 ∧ 0 ≤ (kyP zs p - s.n) * ((s.st : Int) + 1) ∧ s.st ≤ 127 ∧ 0 ≤ ps s.a p.toNat ∧ ps s.a p.toNat ≤ s.st := by
  obtain ⟨q, rfl, hq, ha, h1, h2, h3⟩ := h.rest p (by simp)
  have hb := ps_bd s.a h.bd zs.length
  rw [h.sum] at hb
  have hm := ps_mono s.a h.bd q zs.length (by omega)
  rw [h.sum] at hm
  have hq0 := (ps_bd s.a h.bd q).1
  have hp0 := h.p0
  have hp1 := h.p1
  have hn := h.n0
  have hst : s.st ≤ 127 := by omega
  unfold ES.d
  rw [Int.toNat_natCast]
  have e1 : 0 ≤ (kyP zs (q : Int) - s.n) * ((s.st : Int) + 1) := Int.mul_nonneg (by omega) (by omega)
  have e2 : (kyP zs (q : Int) - s.n) * ((s.st : Int) + 1) ≤ 1114111 * 128 := Int.mul_le_mul (by omega) (by omega) (by omega) (by omega)
  refine ⟨?_, by omega, by omega, e1, hst, hq0, hm⟩
  by_cases e : kyP zs (q : Int) = s.n
  · have := h3 e
    rw [e, Int.sub_self, Int.zero_mul]; omega
  · have e3 : 1 * ((s.st : Int) + 1) ≤ (kyP zs (q : Int) - s.n) * ((s.st : Int) + 1) := Int.mul_le_mul_of_nonneg_right (by omega) (by omega)
    omega
theorem ES.Ok.next {zs : List Int} {s : ES} {p : Int} {rest : List Int} (h : s.Ok zs (p :: rest)) (hl : zs.length ≤ 127) : (s.step zs p).Ok zs rest := by
  obtain ⟨g1, g2, g3, g4, g5, g6, g7⟩ := h.head hl
  obtain ⟨q, rfl, hq, ha, h1, h2, h3⟩ := h.rest p (by simp)
  have hqa : q < s.a.length := by rw [h.len]; exact hq
  have haq : s.a[q] = 0 := by rw [List.getD_eq_getElem?_getD, List.getElem?_eq_getElem hqa] at ha; exact ha
  have hset := ps_set s.a q 1 hqa
  rw [haq] at hset
  have hlex := List.pairwise_cons.1 h.lex
  have had := ad_le (s.d zs (q : Int)).toNat (s.st + 1) (s.i == 0)
  have hn := h.n0
  unfold ES.step
  rw [Int.toNat_natCast] at g6 g7 ⊢
  refine ⟨by simp only [List.length_set]; exact h.len, fun x hx => ?_, ?_, by simp only; omega, by simp only; omega, by simp only; omega, by simp only; omega, by simp only; omega, hlex.2, fun r hr => ?_⟩
  · rcases List.mem_or_eq_of_mem_set hx with hx | rfl
    · exact h.bd x hx
    · omega
  · simp only
    rw [hset, if_pos (by omega), h.sum]; omega
  · obtain ⟨t, rfl, ht, hta, t1, t2, t3⟩ := h.rest r (by simp [hr])
    have hx := hlex.1 (t : Int) hr
    have hne : t ≠ q := by
      intro e
      subst e
      rcases hx with hx | hx <;> omega
    refine ⟨t, rfl, ht, ?_, ?_, t2, fun e => ?_⟩
    · simp only
      rw [getD_set _ _ _ _ hqa, if_neg hne]; exact hta
    · simp only
      rcases hx with hx | hx <;> omega
    · simp only at e ⊢
      rcases hx with hx | hx
      · omega
      · have hm := ps_mono s.a h.bd q t (by omega)
        rw [hset, if_pos (by omega)]; omega
theorem low_sum : ∀ (zs : List Int), (lowA zs).sum = ((lowL zs).length : Int)
  | [] => rfl
  | z :: zs => by
    have ih := low_sum zs
    unfold lowA lowL at ih ⊢
    rw [List.map_cons, List.sum_cons, ih]
    by_cases h : z < 128
    · rw [if_pos h, List.filter_cons_of_pos (by simpa using h), List.length_cons]; omega
    · rw [if_neg h, List.filter_cons_of_neg (by simpa using h)]; omega
theorem ES.start_ok (zs : List Int) (hz : ∀ z ∈ zs, 0 ≤ z ∧ z ≤ 1114111) : (ES.start zs).Ok zs (ordL zs) := by
  have hlen : (lowA zs).length = zs.length := by unfold lowA; simp
  have hbd : ∀ x ∈ lowA zs, 0 ≤ x ∧ x ≤ 1 := fun x hx => by
    unfold lowA at hx
    obtain ⟨z, _, rfl⟩ := List.mem_map.1 hx
    split <;> omega
  refine ⟨hlen, hbd, ?_, by simp [ES.start], by simp [ES.start], by simp [ES.start], by simp [ES.start], by simp [ES.start], (ord_lex zs).1, fun p hp => ?_⟩
  · show ps (lowA zs) zs.length = _
    unfold ps
    rw [← hlen, List.take_length, low_sum]; rfl
  · have hp' := ((ord_lex zs).2 p).1 hp
    obtain ⟨q, rfl, hq, h2⟩ := posL_mem hp'
    have hk := ky_pos hp'
    refine ⟨q, rfl, hq, ?_, hk, ?_, fun _ => (ps_bd _ hbd q).1⟩
    · show (lowA zs).getD q 0 = 0
      rw [List.getD_eq_getElem?_getD, List.getElem?_eq_getElem hq, Option.getD_some] at h2
      unfold lowA
      rw [List.getD_eq_getElem?_getD, List.getElem?_map, List.getElem?_eq_getElem hq]
      simp only [Option.map_some, Option.getD_some]
      rw [if_neg (by omega)]
    · unfold kyP
      rw [if_pos (by omega), Int.toNat_natCast, List.getD_eq_getElem?_getD, List.getElem?_eq_getElem hq, Option.getD_some]
      exact (hz _ (List.getElem_mem hq)).2
theorem wr_short : ∀ (m n : Nat) (d k b : Int), 0 ≤ d → d < 10 ^ m → (wrF n d k b).length ≤ m + 1
  | _, 0, _, _, _, _, _ => by simp [wrF]
  | 0, n + 1, d, k, b, h0, h1 => by
    have := (th_bd k b).1
    simp only [wrF]
    rw [if_pos (by simp at h1; omega)]; simp
  | m + 1, n + 1, d, k, b, h0, h1 => by
    simp only [wrF]
    split
    · simp
    · rename_i h
      have ht := th_bd k b
      have hq := q_lt d k b h
      have h10 : (d - thP k b) / (36 - thP k b) < 10 ^ m := by
        have e1 : (d - thP k b) / (36 - thP k b) * (36 - thP k b) ≤ d - thP k b := Int.ediv_mul_le _ (by omega)
        have e3 : (d - thP k b) / (36 - thP k b) * 10 ≤ (d - thP k b) / (36 - thP k b) * (36 - thP k b) := Int.mul_le_mul_of_nonneg_left (by omega) hq.1
        have e2 : (10 : Int) ^ (m + 1) = 10 ^ m * 10 := Int.pow_succ 10 m
        omega
      have := wr_short m n _ (k + 36) b hq.1 h10
      rw [List.length_cons]; omega
end Pu
end Go.Proofs.Ytoknfhjclpdihaa
