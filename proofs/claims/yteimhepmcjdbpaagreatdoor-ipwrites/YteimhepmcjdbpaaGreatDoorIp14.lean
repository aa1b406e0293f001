import Derived.Test.YteimhepmcjdbpaaGreatDoorIp13
namespace Go.Proofs.YteimhepmcjdbpaaGreatDoor
open Go.RowKit
namespace Ip

/-- How many digits words have. -/
def dgs : List Int → Nat
  | [] => 0
  | x :: t => (hxI x).length + dgs t
theorem dgs_app (a b : List Int) : dgs (a ++ b) = dgs a + dgs b := by
  induction a with
  | nil => simp [dgs]
  | cons x a ih => simp only [List.cons_append, dgs, ih]; omega
theorem dgs_zero (n : Nat) : dgs (List.replicate n 0) = n := by
  induction n with
  | zero => rfl
  | succ n ih =>
    rw [List.replicate_succ, dgs, ih]
    have : (hxI 0).length = 1 := by decide
    omega
def one (l : List Int) : Nat := if l = [] then 0 else 1
theorem wr_len (l : List Int) : (wrT l).length + one l = dgs l + l.length := by
  cases l with
  | nil => rfl
  | cons x t =>
    have h : ∀ t : List Int, (t.flatMap fun y => 58 :: hxI y).length = dgs t + t.length := by
      intro t
      induction t with
      | nil => rfl
      | cons y t ih => rw [List.flatMap_cons, List.length_append, ih, List.length_cons, List.length_cons, dgs]; omega
    unfold wrT one
    rw [if_neg (by simp), List.length_append, h, List.length_cons, dgs]; omega

theorem lg_inv : ∀ ws : List Int, (∃ q, ws = q ++ List.replicate (lgT ws).2.1 0) ∧ (lgT ws).2.1 ≤ (lgT ws).2.2.2 ∧ (∃ q r, ws = q ++ List.replicate (lgT ws).2.2.2 0 ++ r ∧ q.length = (lgT ws).2.2.1) := by
  suffices h : ∀ l : List Int, (∃ q, l.reverse = q ++ List.replicate (lgT l.reverse).2.1 0) ∧ (lgT l.reverse).2.1 ≤ (lgT l.reverse).2.2.2 ∧ (∃ q r, l.reverse = q ++ List.replicate (lgT l.reverse).2.2.2 0 ++ r ∧ q.length = (lgT l.reverse).2.2.1) by
    intro ws; have := h ws.reverse; rwa [List.reverse_reverse] at this
  intro l
  induction l with
  | nil => exact ⟨⟨[], rfl⟩, Nat.le_refl _, ⟨[], [], rfl, rfl⟩⟩
  | cons x l ih =>
    rw [List.reverse_cons, lgT_snoc]
    have hb := lgT_bd l.reverse
    generalize l.reverse = p at *
    generalize lgT p = st at *
    obtain ⟨i, run, at_, size⟩ := st
    obtain ⟨⟨q, hq⟩, hle, ⟨q2, r2, h2, h3⟩⟩ := ih
    simp only at hq hle h2 h3 hb
    unfold lgS
    by_cases hx : x = 0
    · subst hx
      rw [if_neg (by simp)]
      have hq' : p ++ [(0 : Int)] = q ++ List.replicate (run + 1) 0 := by
        rw [hq, List.append_assoc, List.replicate_succ']
      have hql : q.length = i - run := by
        have h := congrArg List.length hq; rw [List.length_append, List.length_replicate] at h; omega
      by_cases hs : size < run + 1
      · rw [if_pos hs]
        refine ⟨⟨q, hq'⟩, Nat.le_refl _, ⟨q, [], by rw [List.append_nil]; exact hq', hql⟩⟩
      · rw [if_neg hs]
        exact ⟨⟨q, hq'⟩, by simp only; omega, ⟨q2, r2 ++ [0], by simp only; rw [h2]; simp, h3⟩⟩
    · rw [if_pos hx]
      exact ⟨⟨p ++ [x], by simp⟩, Nat.zero_le _, ⟨q2, r2 ++ [x], by simp only; rw [h2]; simp, h3⟩⟩

theorem lg_mono (a : List Int) : ∀ b : List Int, (lgT a).2.2.2 ≤ (lgT (a ++ b)).2.2.2 := by
  suffices h : ∀ b : List Int, (lgT a).2.2.2 ≤ (lgT (a ++ b.reverse)).2.2.2 by
    intro b; have := h b.reverse; rwa [List.reverse_reverse] at this
  intro b
  induction b with
  | nil => simp
  | cons x b ih =>
    rw [List.reverse_cons, ← List.append_assoc, lgT_snoc]
    refine Nat.le_trans ih ?_
    unfold lgS
    split
    · exact Nat.le_refl _
    · split
      · simp only; omega
      · exact Nat.le_refl _
theorem lg_run (a : List Int) (n : Nat) : (lgT (a ++ List.replicate n 0)).2.1 = (lgT a).2.1 + n := by
  induction n with
  | zero => simp
  | succ n ih =>
    rw [List.replicate_succ', ← List.append_assoc, lgT_snoc]
    unfold lgS
    rw [if_neg (by simp)]
    split
    · simp only; omega
    · simp only; omega
theorem lg_most (a b : List Int) (n : Nat) : n ≤ (lgT (a ++ List.replicate n 0 ++ b)).2.2.2 := by
  have h1 := lg_mono (a ++ List.replicate n 0) b
  have h2 := (lg_inv (a ++ List.replicate n 0)).2.1
  have h3 := lg_run a n
  omega

/-- How long an address is as it is written. -/
theorem tx_len (ws : List Int) (h8 : ws.length = 8) :
    ((lgT ws).2.2.2 < 2 ∧ (tx6 ws).length + 1 = dgs ws + 8) ∨
    (2 ≤ (lgT ws).2.2.2 ∧ ∃ c1 c2, (tx6 ws).length + c1 + c2 + 2 * (lgT ws).2.2.2 = dgs ws + 10 ∧ (c1 = 0 → (lgT ws).2.2.1 = 0) ∧ (c2 = 0 → (lgT ws).2.2.1 + (lgT ws).2.2.2 = 8)) := by
  obtain ⟨_, _, q, r, e, hq⟩ := lg_inv ws
  have hb := (lgT_bd ws).2.2
  unfold tx6
  generalize (lgT ws).2.2.2 = z at *
  generalize (lgT ws).2.2.1 = a at *
  by_cases hz : z < 2
  · left
    refine ⟨hz, ?_⟩
    rw [if_pos hz]
    have := wr_len ws
    have h1 : one ws = 1 := by unfold one; rw [if_neg (by intro h; rw [h] at h8; cases h8)]
    omega
  · right
    refine ⟨by omega, one (ws.take a), one (ws.drop (a + z)), ?_, ?_, ?_⟩
    · rw [if_neg hz]
      have e1 : ws.take a = q := by rw [e, List.append_assoc, ← hq, List.take_left]
      have e2 : ws.drop (a + z) = r := by
        rw [e, ← hq]
        have : q.length + z = (q ++ List.replicate z (0 : Int)).length := by simp
        rw [this, List.drop_left]
      rw [e1, e2]
      have w1 := wr_len q
      have w2 := wr_len r
      have hd : dgs ws = dgs q + z + dgs r := by rw [e, dgs_app, dgs_app, dgs_zero]
      have hl : ws.length = q.length + z + r.length := by rw [e]; simp; omega
      rw [List.length_append, List.length_append]
      show (wrT q).length + 2 + (wrT r).length + _ + _ + _ = _
      omega
    · intro h
      unfold one at h
      split at h
      · rename_i h2
        have := congrArg List.length h2
        rw [List.length_take, List.length_nil] at this
        omega
      · cases h
    · intro h
      unfold one at h
      split at h
      · rename_i h2
        have := congrArg List.length h2
        rw [List.length_drop, List.length_nil] at this
        omega
      · cases h

/-- A word has no more digits than its text. -/
theorem hx_len (x : Int) (k : Nat) (h0 : 0 ≤ x) (hk : 1 ≤ k) (h : x < 16 ^ k) : (hxI x).length ≤ k ∨ 4 ≤ k := by
  by_cases h4 : 4 ≤ k
  · exact .inr h4
  · left
    unfold hxI hxT
    have hk3 : k = 1 ∨ k = 2 ∨ k = 3 := by omega
    rcases hk3 with rfl | rfl | rfl
    · rw [if_pos (by omega)]; simp
    · by_cases h1 : x.toNat < 16
      · rw [if_pos h1]; simp
      · rw [if_neg h1, if_pos (by omega)]; simp
    · by_cases h1 : x.toNat < 16
      · rw [if_pos h1]; simp
      · rw [if_neg h1]
        by_cases h2 : x.toNat < 256
        · rw [if_pos h2]; simp
        · rw [if_neg h2, if_pos (by omega)]; simp
theorem hexI_lt : ∀ l : List UInt8, l.length ≤ 4 → l.all hxB = true → hexI l < 16 ^ l.length := by
  intro l hl hd
  match l, hl, hd with
  | [], _, _ => decide
  | [a], _, hd =>
    have h1 := valR_16 a.toNat
    simp only [hexI, List.foldl, List.length]; omega
  | [a, b], _, hd =>
    have h1 := valR_16 a.toNat
    have h2 := valR_16 b.toNat
    simp only [hexI, List.foldl, List.length]; omega
  | [a, b, c], _, hd =>
    have h1 := valR_16 a.toNat
    have h2 := valR_16 b.toNat
    have h3 := valR_16 c.toNat
    simp only [hexI, List.foldl, List.length]; omega
  | [a, b, c, d], _, hd =>
    have h1 := valR_16 a.toNat
    have h2 := valR_16 b.toNat
    have h3 := valR_16 c.toNat
    have h4 := valR_16 d.toNat
    simp only [hexI, List.foldl, List.length]; omega
  | _ :: _ :: _ :: _ :: _ :: _, hl, _ => simp at hl
theorem wo_len (p : List UInt8) (h : 0 ≤ woL p) : (hxI (woL p)).length ≤ p.length := by
  have h4 := hxI_len (woL p)
  unfold woL at h ⊢
  split at h
  · rename_i hp
    rw [if_pos hp]
    have hlt := hexI_lt p hp.2.1 hp.2.2
    have hpos : 1 ≤ p.length := List.length_pos_iff.2 hp.1
    rcases hx_len (hexI p) p.length h hpos hlt with h | h
    · exact h
    · have := hxI_len (hexI p); omega
  · omega

def sumL : List (List UInt8) → Nat
  | [] => 0
  | p :: ps => p.length + sumL ps
theorem pa_sum (c : UInt8) : ∀ l, sumL (paL c l) + (paL c l).length = l.length + 1 := by
  intro l
  induction l with
  | nil => rfl
  | cons a l ih =>
    rw [paL]
    split
    · rw [sumL, List.length_cons, List.length_cons, List.length_nil]; omega
    · cases h : paL c l with
      | nil => exact absurd h (paL_ne c l)
      | cons p ps =>
        rw [h] at ih
        simp only [List.headD_cons, List.tail_cons, sumL, List.length_cons] at ih ⊢
        omega
theorem pa_mem (c : UInt8) : ∀ l, ∀ p ∈ paL c l, ∀ x ∈ p, x ∈ l := by
  intro l
  induction l with
  | nil => intro p hp x hx; rw [paL] at hp; simp at hp; subst hp; cases hx
  | cons a l ih =>
    intro p hp x hx
    rw [paL] at hp
    split at hp
    · rcases List.mem_cons.1 hp with rfl | hp
      · cases hx
      · exact List.mem_cons_of_mem _ (ih p hp x hx)
    · cases h : paL c l with
      | nil => exact absurd h (paL_ne c l)
      | cons p0 ps =>
        rw [h] at hp ih
        simp only [List.headD_cons, List.tail_cons] at hp
        rcases List.mem_cons.1 hp with rfl | hp
        · rcases List.mem_cons.1 hx with rfl | hx
          · exact List.mem_cons_self
          · exact List.mem_cons_of_mem _ (ih p0 List.mem_cons_self x hx)
        · exact List.mem_cons_of_mem _ (ih p (List.mem_cons_of_mem _ hp) x hx)
theorem pa_one (c : UInt8) : ∀ l, c ∉ l → paL c l = [l] := by
  intro l
  induction l with
  | nil => intro _; rfl
  | cons a l ih =>
    intro h
    rw [paL, if_neg (fun e => h (by rw [e]; exact List.mem_cons_self)), ih (fun h2 => h (List.mem_cons_of_mem _ h2))]; rfl
theorem v4_no (p : List UInt8) (h : (46 : UInt8) ∉ p) : (v4L p).2 = false := by
  unfold v4L; rw [pa_one 46 p h]; rfl

theorem re_sum (q : Bool) : ∀ ps ws, reP q ps = some ws → (∀ p ∈ ps, (46 : UInt8) ∉ p) → dgs ws ≤ sumL ps ∧ ws.length = ps.length := by
  intro ps
  induction ps with
  | nil => intro ws h _; cases h; exact ⟨Nat.le_refl _, rfl⟩
  | cons p ps ih =>
    intro ws h hd
    rw [reP] at h
    split at h
    · rename_i hp
      cases hq : reP q ps with
      | none => rw [hq] at h; cases h
      | some vs =>
        rw [hq] at h
        cases h
        have := ih vs hq (fun p2 h2 => hd p2 (List.mem_cons_of_mem _ h2))
        have h2 := wo_len p hp
        simp only [dgs, sumL, List.length_cons]
        omega
    · split at h
      · rename_i h2
        rw [v4_no p (hd p List.mem_cons_self)] at h2
        exact absurd h2.1 (by simp)
      · cases h
theorem rel_sum (q : Bool) (l : List UInt8) (ws : List Int) (h : reL q l = some ws) (hd : (46 : UInt8) ∉ l) : dgs ws + ws.length ≤ l.length + one ws := by
  unfold reL at h
  split at h
  · cases h; exact Nat.zero_le _
  · unfold reS at h
    cases hp : reP q (paL 58 l) with
    | none => rw [hp] at h; cases h
    | some vs =>
      rw [hp] at h
      simp only [List.nil_append] at h
      split at h
      · cases h
        have h1 := re_sum q _ _ hp (fun p h2 h3 => hd (pa_mem 58 l p h2 46 h3))
        have h2 := pa_sum 58 l
        have h3 := List.length_pos_iff.2 (paL_ne 58 l)
        have h4 : one ws = 1 := by unfold one; rw [if_neg (by intro e; rw [e] at h1; simp at h1; omega)]
        omega
      · cases h
theorem cu_sum (sub : List UInt8) : ∀ l, (cuG sub l).2.2 = true → l.length = (cuG sub l).1.length + sub.length + (cuG sub l).2.1.length ∧ (∀ x, x ∈ (cuG sub l).1 ∨ x ∈ (cuG sub l).2.1 → x ∈ l) := by
  intro l
  induction l with
  | nil => intro h; cases h
  | cons a l ih =>
    unfold cuG
    split
    · rename_i hp
      intro _
      have hle : sub.length ≤ (a :: l).length := (List.isPrefixOf_iff_prefix.1 hp).length_le
      refine ⟨by simp only [List.length_drop, List.length_nil]; omega, ?_⟩
      intro x hx
      rcases hx with hx | hx
      · cases hx
      · exact List.mem_of_mem_drop hx
    · intro h
      have := ih h
      refine ⟨by simp only [List.length_cons]; omega, ?_⟩
      intro x hx
      rcases hx with hx | hx
      · rcases List.mem_cons.1 hx with rfl | hx
        · exact List.mem_cons_self
        · exact List.mem_cons_of_mem _ (this.2 x (.inl hx))
      · exact List.mem_cons_of_mem _ (this.2 x (.inr hx))

/-- What is read is written with one byte more at most, if no full stop stands in it. -/
theorem short_len (l : List UInt8) (h : (v6L l).2 = true) (hd : (46 : UInt8) ∉ l) : (tx6 (v6L l).1).length ≤ l.length + 1 := by
  unfold v6L at h ⊢
  split at h
  · rename_i hf
    rw [if_pos hf]
    cases hr : reL true l with
    | none => rw [hr] at h; cases h
    | some ws =>
      rw [hr] at h
      simp only at h ⊢
      split at h
      · rename_i h8
        rw [if_pos h8]
        simp only
        have h1 := rel_sum true l ws hr hd
        have h2 : one ws = 1 := by unfold one; rw [if_neg (by intro e; rw [e] at h8; cases h8)]
        rcases tx_len ws h8 with ⟨_, h3⟩ | ⟨h3, c1, c2, h4, _, _⟩ <;> omega
      · cases h
  · rename_i hf
    rw [if_neg hf]
    have hc := cu_sum [58, 58] l (by simpa using hf)
    cases hr : reL false (cuG [58, 58] l).1 with
    | none => rw [hr] at h; cases h
    | some hs =>
      cases hr2 : reL true (cuG [58, 58] l).2.1 with
      | none => rw [hr, hr2] at h; cases h
      | some ts =>
        rw [hr, hr2] at h
        simp only at h ⊢
        split at h
        · rename_i hlt
          rw [if_pos hlt]
          simp only
          have a1 := rel_sum false _ hs hr (fun h2 => hd (hc.2 _ (.inl h2)))
          have a2 := rel_sum true _ ts hr2 (fun h2 => hd (hc.2 _ (.inr h2)))
          have hlen : l.length = (cuG [58, 58] l).1.length + 2 + (cuG [58, 58] l).2.1.length := hc.1
          have hn : ∃ n, n = 8 - hs.length - ts.length := ⟨_, rfl⟩
          obtain ⟨n, hn⟩ := hn
          rw [← hn]
          have h8 : (hs ++ List.replicate n 0 ++ ts).length = 8 := by simp; omega
          have hm := lg_most hs ts n
          have hdg : dgs (hs ++ List.replicate n 0 ++ ts) = dgs hs + n + dgs ts := by rw [dgs_app, dgs_app, dgs_zero]
          have o1 : one hs ≤ 1 ∧ (one hs = 1 → 1 ≤ hs.length) := by
            unfold one; split
            · exact ⟨by omega, fun h => by cases h⟩
            · rename_i h; exact ⟨Nat.le_refl _, fun _ => List.length_pos_iff.2 h⟩
          have o2 : one ts ≤ 1 ∧ (one ts = 1 → 1 ≤ ts.length) := by
            unfold one; split
            · exact ⟨by omega, fun h => by cases h⟩
            · rename_i h; exact ⟨Nat.le_refl _, fun _ => List.length_pos_iff.2 h⟩
          rcases tx_len _ h8 with ⟨h3, h4⟩ | ⟨h3, c1, c2, h4, h5, h6⟩
          · omega
          · have hc12 : (c1 = 0 ∧ c2 = 0 → n = 8 ∨ n < (lgT (hs ++ List.replicate n 0 ++ ts)).2.2.2) := by
              rintro ⟨rfl, rfl⟩
              have := h5 rfl
              have := h6 rfl
              omega
            by_cases hcc : c1 = 0 ∧ c2 = 0
            · rcases hc12 hcc with h7 | h7 <;> omega
            · omega
        · cases h
end Ip
end Go.Proofs.YteimhepmcjdbpaaGreatDoor
