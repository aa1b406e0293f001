import Derived.Test.YtoknfhjclpdihaaPu16
namespace Go.Proofs.Ytoknfhjclpdihaa
namespace Pu
open Go.RowKit Od

/-- The code point at a place. -/
def cd (zs : List Int) (p : Nat) : Int := zs.getD p 0
theorem ky_cd (zs : List Int) (p : Nat) : kyP zs (p : Int) = cd zs p := by
  unfold kyP cd
  rw [if_pos (by omega), Int.toNat_natCast]
/-- What is written already, and what is left. -/
structure RI (zs : List Int) (s : ES) (rest : List Int) (P : Nat → Prop) : Prop where
  ok : s.Ok zs rest
  fin : (rest.foldl (ES.step zs) s).out = encP zs
  cnt : s.st + rest.length = zs.length
  mem : ∀ y, y ∈ rest ↔ ∃ p : Nat, y = p ∧ p < zs.length ∧ P p
  one : ∀ p, p < zs.length → ¬ P p → s.a.getD p 0 = 1
  fst : s.i + (lowL zs).length = s.st
  len : s.out.length ≤ 300 + 20 * s.st
theorem RI.congr {zs : List Int} {s : ES} {rest : List Int} {P P' : Nat → Prop} (h : RI zs s rest P) (e : ∀ p, p < zs.length → (P p ↔ P' p)) : RI zs s rest P' :=
  ⟨h.ok, h.fin, h.cnt, fun y => by
    rw [h.mem]
    constructor
    · rintro ⟨p, h1, h2, h3⟩; exact ⟨p, h1, h2, (e p h2).1 h3⟩
    · rintro ⟨p, h1, h2, h3⟩; exact ⟨p, h1, h2, (e p h2).2 h3⟩, fun p hp hn => h.one p hp (fun h3 => hn ((e p hp).1 h3)), h.fst, h.len⟩
theorem RI.zero {zs : List Int} {s : ES} {rest : List Int} {P : Nat → Prop} (h : RI zs s rest P) {p : Nat} (hp : p < zs.length) (hP : P p) : s.a.getD p 0 = 0 := by
  obtain ⟨q, e, _, h2, _⟩ := h.ok.rest (p : Int) ((h.mem _).2 ⟨p, rfl, hp, hP⟩)
  have : q = p := by omega
  subst this; exact h2
theorem ps_next {zs : List Int} {s : ES} (hl : s.a.length = zs.length) {q : Nat} (hq : q < zs.length) : ps s.a (q + 1) = ps s.a q + s.a.getD q 0 := by
  have hq' : q < s.a.length := by rw [hl]; exact hq
  rw [ps_succ _ _ hq', List.getD_eq_getElem?_getD, List.getElem?_eq_getElem hq']; rfl
/-- What is left in a round at m, from a place on. -/
def Pm (zs : List Int) (m : Int) (q : Nat) (p : Nat) : Prop := m < cd zs p ∨ (cd zs p = m ∧ q ≤ p)
theorem RI.lt {zs : List Int} {s : ES} {rest : List Int} {m : Int} {q : Nat} (h : RI zs s rest (Pm zs m q)) (hq : q < zs.length) (hz : cd zs q < m) : RI zs s rest (Pm zs m (q + 1)) ∧ ps s.a (q + 1) = ps s.a q + 1 := by
  refine ⟨h.congr fun p hp => ?_, ?_⟩
  · unfold Pm
    constructor
    · rintro (h1 | ⟨h1, h2⟩)
      · exact .inl h1
      · right
        refine ⟨h1, ?_⟩
        have : p ≠ q := fun e => by subst e; omega
        omega
    · rintro (h1 | ⟨h1, h2⟩)
      · exact .inl h1
      · exact .inr ⟨h1, by omega⟩
  · rw [ps_next h.ok.len hq, h.one q hq (by unfold Pm; omega)]
theorem RI.gt {zs : List Int} {s : ES} {rest : List Int} {m : Int} {q : Nat} (h : RI zs s rest (Pm zs m q)) (hq : q < zs.length) (hz : m < cd zs q) : RI zs s rest (Pm zs m (q + 1)) ∧ ps s.a (q + 1) = ps s.a q := by
  refine ⟨h.congr fun p hp => ?_, ?_⟩
  · unfold Pm
    constructor
    · rintro (h1 | ⟨h1, h2⟩)
      · exact .inl h1
      · right
        refine ⟨h1, ?_⟩
        have : p ≠ q := fun e => by subst e; omega
        omega
    · rintro (h1 | ⟨h1, h2⟩)
      · exact .inl h1
      · exact .inr ⟨h1, by omega⟩
  · rw [ps_next h.ok.len hq, h.zero hq (.inl hz)]; omega
theorem RI.eq {zs : List Int} {s : ES} {rest : List Int} {m : Int} {q : Nat} (hl : zs.length ≤ 127) (h : RI zs s rest (Pm zs m q)) (hq : q < zs.length) (hz : cd zs q = m) :
    ∃ rest', rest = (q : Int) :: rest' ∧ RI zs (s.step zs q) rest' (Pm zs m (q + 1)) ∧ ps (s.step zs q).a (q + 1) = ps s.a q + 1 := by
  have hqm : (q : Int) ∈ rest := (h.mem _).2 ⟨q, rfl, hq, .inr ⟨hz, Nat.le_refl _⟩⟩
  cases hr : rest with
  | nil => rw [hr] at hqm; simp at hqm
  | cons x rest' =>
    have hlx := h.ok.lex
    rw [hr] at hlx hqm
    have hpw := List.pairwise_cons.1 hlx
    obtain ⟨p, ep, hp, hP⟩ := (h.mem x).1 (by rw [hr]; simp)
    have hx : x = (q : Int) := by
      rcases List.mem_cons.1 hqm with e | e
      · exact e.symm
      · exfalso
        have hL := hpw.1 _ e
        rw [ep] at hL
        unfold Lex at hL
        rw [ky_cd, ky_cd, hz] at hL
        rcases hP with h1 | ⟨h1, h2⟩
        · rcases hL with h3 | h3 <;> omega
        · rcases hL with h3 | h3 <;> omega
    subst hx
    have hOk := h.ok
    rw [hr] at hOk
    have hfin := h.fin
    rw [hr] at hfin
    have hcnt := h.cnt
    rw [hr, List.length_cons] at hcnt
    have hqa : q < s.a.length := by rw [h.ok.len]; exact hq
    have hhd := hOk.head hl
    refine ⟨rest', rfl, ⟨hOk.next hl, hfin, ?_, fun y => ?_, fun r hr' hn => ?_, ?_, ?_⟩, ?_⟩
    · show s.st + 1 + rest'.length = _; omega
    · have hm := h.mem y
      rw [hr, List.mem_cons] at hm
      constructor
      · intro hy
        obtain ⟨r, e, hr1, hP⟩ := hm.1 (.inr hy)
        refine ⟨r, e, hr1, ?_⟩
        have hne : r ≠ q := by
          intro e2
          have hL := hpw.1 y hy
          rw [e, e2] at hL
          unfold Lex at hL
          rcases hL with h3 | h3 <;> omega
        rcases hP with h1 | ⟨h1, h2⟩
        · exact .inl h1
        · exact .inr ⟨h1, by omega⟩
      · rintro ⟨r, e, hr1, hP⟩
        rcases hm.2 ⟨r, e, hr1, by rcases hP with h1 | ⟨h1, h2⟩
                                   · exact .inl h1
                                   · exact .inr ⟨h1, by omega⟩⟩ with h3 | h3
        · exfalso
          have : r = q := by omega
          subst this
          rcases hP with h1 | ⟨h1, h2⟩ <;> omega
        · exact h3
    · show (s.a.set (q : Int).toNat 1).getD r 0 = 1
      rw [Int.toNat_natCast, getD_set _ _ _ _ hqa]
      by_cases e : r = q
      · rw [if_pos e]
      · rw [if_neg e]
        refine h.one r hr' (fun hP => hn ?_)
        rcases hP with h1 | ⟨h1, h2⟩
        · exact .inl h1
        · exact .inr ⟨h1, by omega⟩
    · show s.i + 1 + _ = s.st + 1
      have := h.fst
      omega
    · show (s.out ++ wrP (s.d zs q) s.bias).length ≤ 300 + 20 * (s.st + 1)
      have h1 := h.len
      have h2 : (wrP (s.d zs (q : Int)) s.bias).length ≤ 11 := wr_short 10 _ _ 36 s.bias hhd.1 (by have := hhd.2.1; omega)
      rw [List.length_append]
      omega
    · show ps (s.a.set (q : Int).toNat 1) (q + 1) = _
      have ha : s.a[q] = 0 := by
        have := h.zero hq (.inr ⟨hz, Nat.le_refl _⟩)
        rw [List.getD_eq_getElem?_getD, List.getElem?_eq_getElem hqa] at this
        exact this
      rw [Int.toNat_natCast, ps_set _ _ _ hqa, if_pos (by omega), ps_succ _ _ hqa, ha]; omega
theorem low_cnt : ∀ (zs : List Int) (k : Nat), (posL zs k).length + (lowL (zs.take k)).length = min k zs.length + (k - min k zs.length) * 0
  | zs, 0 => by simp [posL, lowL]
  | zs, k + 1 => by
    have ih := low_cnt zs k
    by_cases h : k < zs.length
    · rw [posL_succ, List.length_append, lowL_succ zs k h, List.length_append]
      have e : zs.getD k 0 = zs[k] := by rw [List.getD_eq_getElem?_getD, List.getElem?_eq_getElem h]; rfl
      rw [e]
      by_cases h2 : zs[k] < 128
      · rw [if_pos h2, if_neg (by omega)]; simp at ih ⊢; omega
      · rw [if_neg h2, if_pos (by omega)]; simp at ih ⊢; omega
    · have e1 : zs.take (k + 1) = zs.take k := by rw [List.take_of_length_le (by omega), List.take_of_length_le (by omega)]
      rw [posL_succ, e1]
      have e : zs.getD k 0 = 0 := by rw [List.getD_eq_getElem?_getD, List.getElem?_eq_none (by omega)]; rfl
      rw [e, if_neg (by omega), List.append_nil]
      simp at ih ⊢
      omega
theorem RI.start (zs : List Int) (hz : ∀ z ∈ zs, 0 ≤ z ∧ z ≤ 1114111) : RI zs (ES.start zs) (ordL zs) (fun p => 128 ≤ cd zs p) := by
  refine ⟨ES.start_ok zs hz, rfl, ?_, fun y => ?_, fun p hp hn => ?_, ?_, ?_⟩
  · have h1 := low_cnt zs zs.length
    have h2 : (ordL zs).length = (posL zs zs.length).length := (sw_srt (kyP zs) _).len
    rw [List.take_length] at h1
    show (lowL zs).length + _ = _
    simp at h1
    omega
  · rw [(ord_lex zs).2]
    constructor
    · intro h
      obtain ⟨i, e, h1, h2⟩ := posL_mem h
      exact ⟨i, e, h1, h2⟩
    · rintro ⟨p, rfl, h1, h2⟩
      exact posL_mem' h1 h2
  · show (lowA zs).getD p 0 = 1
    unfold cd at hn
    rw [List.getD_eq_getElem?_getD, List.getElem?_eq_getElem hp, Option.getD_some] at hn
    unfold lowA
    rw [List.getD_eq_getElem?_getD, List.getElem?_map, List.getElem?_eq_getElem hp]
    simp only [Option.map_some, Option.getD_some]
    rw [if_pos (by omega)]
  · show 0 + (lowL zs).length = (lowL zs).length; omega
  · show (if (lowL zs).length = 0 then [] else lowL zs ++ [45]).length ≤ 300 + 20 * (lowL zs).length
    split
    · simp
    · rw [List.length_append]; simp; omega
end Pu
end Go.Proofs.Ytoknfhjclpdihaa
