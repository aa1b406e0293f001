import Derived.Test.YtclcmkklonnalaaGreatNfc3x9
import Derived.Test.YtclcmkklonnalaaGreatOrd14x25
namespace Go.Proofs.YtclcmkklonnalaaGreat
namespace Nf
open Go.RowKit Od Pr Ha

set_option maxRecDepth 1000000 in
theorem rows_up : allP.all (fun x => skipB x || (clsP x.1 == 0 && !witB x.2.1 4352 19 && !sylB x.2.1)) = true := by kernel_rfl
set_option maxRecDepth 1000000 in
theorem rows_syl : Uc.allT.all (fun x => x.2.2.2.2.2.1 == 0 || decide (x.2.1 < 44032) || decide (55203 < x.1)) = true := by kernel_rfl
theorem findL_cls (r : Int) (h1 : 44032 ≤ r) (h2 : r ≤ 55203) : ∀ (L : List Uc.Ln), L.all (fun x => x.2.2.2.2.2.1 == 0 || decide (x.2.1 < 44032) || decide (55203 < x.1)) = true → (Uc.findL r L).2.2.2.2.2.1 = 0
  | [], _ => rfl
  | x :: L, h => by
    rw [List.all_cons, Bool.and_eq_true] at h
    unfold Uc.findL
    split
    · rename_i hh
      have := h.1
      simp only [Bool.or_eq_true, beq_iff_eq, decide_eq_true_eq] at this
      omega
    · exact findL_cls r h1 h2 L h.2
theorem cls_syl {r : Int} (h : sylB r = true) : clsP r = 0 := by
  obtain ⟨h1, h2⟩ := syl_bd h
  rw [cls_row, Uc.rrow_find]
  exact findL_cls r h1 h2 _ rows_syl
theorem up_row {a b : Int} (h : u2 a b = true) : clsP (u1 a b) = 0 ∧ witB a 4352 19 = false ∧ sylB a = false := by
  unfold u2 at h
  unfold u1
  cases hu : upF allP (a, b) with
  | none => rw [hu] at h; cases h
  | some z =>
    obtain ⟨R, hR, hs, e, rfl⟩ := up_mem allP _ z hu
    simp only [Prod.mk.injEq] at e
    have := List.all_eq_true.1 rows_up R hR
    simp only [hs, Bool.false_or, Bool.and_eq_true, beq_iff_eq, Bool.not_eq_true'] at this
    rw [e.1]
    exact ⟨this.1.1, this.1.2, this.2⟩
/-- What two make is a starter. -/
theorem mk_cls {a b : Int} (h : mkB a b = true) : clsP (mkI a b) = 0 := by
  unfold mkI
  split
  · exact (up_row ‹_›).1
  · split
    · exact cls_syl (lv_parts a b ‹_›).1
    · have h3 : otB a b = true := by
        unfold mkB at h
        cases hu : u2 a b <;> cases hl : lvB a b <;> simp_all
      exact cls_syl (ot_parts a b h3).2.2.1
/-- What two make, by the reference. -/
def rmk (a b : Int) : Int := if 0 ≤ rjI a b then rjI a b else rupP allP a b allP
theorem rmk_eq (a b : Int) : rmk a b = if mkB a b = true then mkI a b else -1 := by
  unfold rmk mkB mkI
  rcases rup_eq a b with ⟨h1, h2, h3⟩ | ⟨h1, h2, h3⟩
  · obtain ⟨_, q1, q2⟩ := up_row h1
    have e1 : lvB a b = false := by unfold lvB; rw [q1]; rfl
    have e2 : otB a b = false := by unfold otB opnB; rw [q2]; rfl
    have e3 : rjI a b = -1 := by unfold rjI; rw [e1, e2]; rfl
    rw [e3, if_neg (by omega), h1, h2]; simp
  · rw [h1, h3]
    by_cases e1 : lvB a b = true
    · have e3 : rjI a b = lvI a b := by unfold rjI; rw [if_pos e1]
      have := syl_bd (lv_parts a b e1).1
      rw [e3, if_pos (by omega), e1]; simp
    · have e1' : lvB a b = false := by simpa using e1
      by_cases e2 : otB a b = true
      · have e3 : rjI a b = otI a b := by unfold rjI; rw [if_neg e1, if_pos e2]
        have := syl_bd (ot_parts a b e2).2.2.1
        rw [e3, if_pos (by omega), e1', e2]; simp
      · have e2' : otB a b = false := by simpa using e2
        have e3 : rjI a b = -1 := by unfold rjI; rw [if_neg e1, if_neg e2]
        rw [e3, if_neg (by omega), e1', e2']; simp
theorem mk_pos {a b : Int} (h : mkB a b = true) : 0 ≤ mkI a b := by
  have e := rmk_eq a b
  rw [if_pos h] at e
  rw [← e]
  unfold rmk
  rcases rup_eq a b with ⟨h1, h2, h3⟩ | ⟨h1, h2, h3⟩
  · split <;> omega
  · unfold rmk at e
    split
    · assumption
    · rename_i h4
      rw [if_neg h4, h3] at e
      exfalso
      unfold mkB at h
      unfold mkI at e
      rw [h1] at h e
      by_cases e1 : lvB a b = true
      · have := syl_bd (lv_parts a b e1).1
        rw [if_neg (by decide), if_pos e1] at e
        omega
      · have e1' : lvB a b = false := by simpa using e1
        rw [e1'] at h
        have e2 : otB a b = true := by simpa using h
        have := syl_bd (ot_parts a b e2).2.2.1
        rw [if_neg (by decide), if_neg e1] at e
        omega

/-- What holds of a state: what stands behind the starter are marks, and the starter is one. -/
def okC (s : CS) : Prop := (∀ m ∈ s.2.2, clsP m ≠ 0) ∧ match s.2.1 with
  | none => s.1 = []
  | some x => clsP x = 0
theorem try_some {s : CS} {r : Int} (h : tryC clsP s r = true) : ∃ x, s.2.1 = some x ∧ mkB x r = true := by
  unfold tryC at h
  cases hx : s.2.1 with
  | none => rw [hx] at h; cases h
  | some x => rw [hx] at h; simp only [Bool.and_eq_true] at h; exact ⟨x, rfl, h.2⟩
theorem okC_step {s : CS} (r : Int) (h : okC s) : okC (stepC clsP s r) := by
  obtain ⟨A, o, M⟩ := s
  by_cases ht : tryC clsP (A, o, M) r = true
  · obtain ⟨x, e, hm⟩ := try_some ht
    simp only at e
    subst e
    rw [step_join ht]
    exact ⟨h.1, mk_cls hm⟩
  · unfold stepC
    rw [if_neg ht]
    split
    · rename_i hc
      exact ⟨fun m hm => by simp at hm, hc⟩
    · rename_i hc
      refine ⟨fun m hm => ?_, h.2⟩
      rcases List.mem_append.1 hm with hm | hm
      · exact h.1 m hm
      · simp at hm; subst hm; exact hc
theorem okC_fold : ∀ (l : List Int) (s : CS), okC s → okC (l.foldl (stepC clsP) s)
  | [], _, h => h
  | r :: l, _, h => okC_fold l _ (okC_step r h)

theorem getD_mid (P M R : List Int) (j : Nat) (h : j < M.length) : (P ++ M ++ R).getD (P.length + j) 0 = M[j] := by
  rw [List.getD_eq_getElem?_getD, List.append_assoc, List.getElem?_append_right (by omega), Nat.add_sub_cancel_left, List.getElem?_append_left h, List.getElem?_eq_getElem h]
  rfl
theorem start_marks (P M R : List Int) (h : ∀ m ∈ M, clsP m ≠ 0) : ∀ j, j ≤ M.length → startN clsP (P ++ M ++ R) (P.length + j) = startN clsP (P ++ M ++ R) P.length
  | 0, _ => rfl
  | j + 1, hj => by
    have e : startN clsP (P ++ M ++ R) (P.length + (j + 1)) = if clsP ((P ++ M ++ R).getD (P.length + j) 0) = 0 then ((P.length + j : Nat) : Int) else startN clsP (P ++ M ++ R) (P.length + j) := rfl
    rw [e, getD_mid P M R j (by omega), if_neg (h _ (List.getElem_mem _)), start_marks P M R h j (by omega)]
/-- The starter that the reference finds. -/
theorem start_at (s : CS) (h : okC s) (R : List Int) : startN clsP (outC s ++ R) (outC s).length = stI s := by
  obtain ⟨A, o, M⟩ := s
  obtain ⟨h1, h2⟩ := h
  cases o with
  | none =>
    simp only at h2
    subst h2
    have := start_marks [] M R h1 M.length (Nat.le_refl _)
    simp only [List.nil_append, List.length_nil, Nat.zero_add] at this
    show startN clsP (([] ++ [] ++ M) ++ R) _ = -1
    simp only [List.nil_append, outC, Option.toList] at this ⊢
    rw [this]
    rfl
  | some x =>
    simp only at h2
    have := start_marks (A ++ [x]) M R h1 M.length (Nat.le_refl _)
    have e : (outC (A, some x, M)).length = (A ++ [x]).length + M.length := by simp [outC]; omega
    rw [e]
    show startN clsP ((A ++ [x] ++ M) ++ R) _ = _
    rw [this]
    have e2 : (A ++ [x]).length = A.length + 1 := by simp
    rw [e2]
    have e3 : (A ++ [x] ++ M ++ R).getD (A.length + 0) 0 = x := by
      simp
    show (if clsP ((A ++ [x] ++ M ++ R).getD (A.length) 0) = 0 then ((A.length : Nat) : Int) else _) = _
    rw [Nat.add_zero] at e3
    rw [e3, if_pos h2]
    rfl
theorem gr_at : ∀ (M : List Int) (g0 : Int), M.foldl (fun g r => if g < clsP r then clsP r else g) g0 = g0 ∨ ∃ m ∈ M, M.foldl (fun g r => if g < clsP r then clsP r else g) g0 = clsP m
  | [], _ => .inl rfl
  | x :: M, g0 => by
    rw [List.foldl_cons]
    rcases gr_at M (if g0 < clsP x then clsP x else g0) with h | ⟨m, hm, h⟩
    · rw [h]
      split
      · exact .inr ⟨x, by simp, rfl⟩
      · exact .inl rfl
    · exact .inr ⟨m, by simp [hm], h⟩
theorem gr_any (M : List Int) (r : Int) (h : ∀ m ∈ M, clsP m ≠ 0) : M.any (fun m => decide (clsP r ≤ clsP m)) = (decide (0 < gr clsP M) && decide (clsP r ≤ gr clsP M)) := by
  rw [Bool.eq_iff_iff, Bool.and_eq_true, decide_eq_true_eq, decide_eq_true_eq, List.any_eq_true]
  have hg := gr_ge clsP M 0
  have ha := gr_at M 0
  unfold gr
  constructor
  · rintro ⟨m, hm, hh⟩
    have h1 := of_decide_eq_true hh
    have h2 := hg.2 m hm
    have h3 := h m hm
    have h4 := (cls_bd m).1
    exact ⟨by omega, by omega⟩
  · rintro ⟨h1, h2⟩
    rcases ha with ha | ⟨m, hm, ha⟩
    · omega
    · exact ⟨m, hm, decide_eq_true (by omega)⟩
/-- What is blocked, by the reference. -/
theorem blocked_at (A M : List Int) (x r : Int) (h : okC (A, some x, M)) (R : List Int) : blockedP clsP (outC (A, some x, M) ++ r :: R) (outC (A, some x, M)).length = (decide (0 < gr clsP M) && decide (clsP r ≤ gr clsP M)) := by
  unfold blockedP
  rw [start_at _ h]
  have e1 : stI (A, some x, M) = (A.length : Int) := rfl
  have e2 : (outC (A, some x, M) ++ r :: R).getD (outC (A, some x, M)).length 0 = r := by
    simp
  rw [e1, e2, decide_eq_true (by omega), Bool.true_and, List.take_left, ← gr_any M r h.1]
  have e3 : (outC (A, some x, M)).drop ((A.length : Int).toNat + 1) = M := by
    show (A ++ [x] ++ M).drop (A.length + 1) = M
    rw [show A.length + 1 = (A ++ [x]).length by simp, List.drop_left]
  rw [e3]
end Nf
end Go.Proofs.YtclcmkklonnalaaGreat

namespace Go.Proofs.YtclcmkklonnalaaGreat
namespace Nf
open Go.RowKit Od Pr Ha

/-- A row of ints of a call's own. -/
def Own (B : Nat) (w : World) (v : Value) (l : List Int) : Prop := w.ownsRow B 3 1 v l.length (ivs .i64 l) ∧ isSome v
theorem own_lit (w : World) (l : List Int) (h : l.length ≤ 5000) (N : Nat) (hN : N = w.heap.size) (n : Nat) (hn : n = l.length) : Own N (w.alloc (.cells (ivs .i64 l).toArray 3)) (.slice (some ⟨N, 0, none⟩) n n) l := by
  subst hN
  subst hn
  exact ⟨⟨by rw [ivs_len]; simp, .inr ⟨w.heap.size, l.length, _, rfl, Nat.le_refl _, heap_new w _, Nat.le_refl _, by unfold maxLen; omega, by rw [List.size_toArray, ivs_len]; omega, by show (ivs .i64 l).take (l.length * 1) = _; rw [List.take_of_length_le (by rw [ivs_len]; omega)]⟩⟩, trivial⟩
theorem Own.step {B : Nat} {w w' : World} {v : Value} {l : List Int} (h : Own B w v l) (hb : Below w.heap.size w w') : Own B w' v l := ⟨Uc.own_below h.1 hb, h.2⟩
theorem Own.sn {B : Nat} {w : World} {v : Value} {l : List Int} (h : Own B w v l) : Sn .i64 w v l := (own_sl h.1).sn h.2
theorem Own.base {B B' : Nat} {w : World} {v : Value} {l : List Int} (h : Own B w v l) (hB : B' ≤ B) : Own B' w v l := ⟨Od.own_base h.1 hB, h.2⟩

/-- append(out, l...) onto a row of the call's own. -/
theorem app_row {ops : Array Oper} {rest : List Oper} {o : Oper} {a : Act} {Q : Exit → Act → World → Prop} (hgd : o.guard = none) (s x : Operand)
    (ho : o.op = .call { callee := .builtin .append, args := #[s, x], argTypes := #[28, 28] }) (W : World) (B : Nat) (v u : Value) (xs zs : List Int) (hs : a.eval s = v) (hx : a.eval x = u)
    (hown : Own B W v xs) (hz : Sn .i64 W u zs) (hn : xs.length + zs.length ≤ 1000000000) (hB : B ≤ W.heap.size)
    (h : ∀ v' w', Own B w' v' (xs ++ zs) → Below B W w' → wpList Tryz.prog ops Q rest (a.put o.dst v') w') :
    wpList Tryz.prog ops Q (o :: rest) a W := by
  obtain ⟨ad, cap, rfl, hz⟩ := hz
  exact app_all hgd s x ho W B v ad cap xs zs hs hx hown.1 hown.2 hz hn hB (fun v' w' h1 h2 h3 _ => h v' w' ⟨h1, h2⟩ h3)

theorem Own.alloc_step {B : Nat} {w : World} {v : Value} {l : List Int} (h : Own B w v l) (o : Obj) : Own B (w.alloc o) v l := h.step ((Below.refl _ _).alloc (Nat.le_refl _) _)

set_option maxRecDepth 100000 in
set_option maxHeartbeats 4000000 in
theorem rapart_any {g cap : Nat} : ∀ (n : Nat) (r : Int), okF n r = true → 3 * 2 ^ n ≤ 500000000 → ∀ (w : World), RR3 w g allP →
    Calls Tryz.prog 68 #[.slice (some ⟨g, 0, none⟩) allP.length cap, .int .i64 r] w fun e w' => ∃ v', e = .returned v' ∧ Own w.heap.size w' v' (apF n r) ∧ Below w.heap.size w w'
  | 0, _, h, _, _, _ => by cases h
  | n + 1, r, hok, hn6, w, hR => by
    rw [Nat.pow_succ] at hn6
    replace hn6 : 3 * 2 ^ n ≤ 500000000 := by omega
    have ih := fun (r : Int) (h : okF n r = true) => rapart_any (g := g) (cap := cap) n r h hn6
    have HIH := hid ih
    have HR := hid hR
    have H0 := hid (Ok.start w)
    have hll : allP.length ≤ 1000 := by decide
    have hlenA : ∀ x, (apF n x).length ≤ 3 * 2 ^ n := apF_len n
    simp only [okF] at hok
    by_cases hs : sylB r = true
    · obtain ⟨hs1, hs2⟩ := syl_bd hs
      have HE : Hid (apF (n + 1) r = sylL r) := by show _ = _; simp only [apF]; rw [if_pos hs]
      have HSp := hid (fun w => rparts_yes r w hs1 hs2)
      have HSL : Hid (sylL r = if talI r = 0 then [ledI r, vowI r] else [ledI r, vowI r, talI r]) := rfl
      clear ih hR hok hs hs1 hs2 hlenA
      generalize ledI r = a at *
      generalize vowI r = c at *
      generalize talI r = t at *
      generalize allP.length = al at *
      by_cases ht : t = 0
      · have HS0 : Hid (apF (n + 1) r = [a, c]) := by show _ = _; rw [HE.out, HSL.out, if_pos ht]
        clear HSL HE
        subst ht
        go_enter Tryz.func68, Tryz.ntmps68
        go_wp2_with (go_at_call 102; refine (HSp.out _).mono ?_; rintro e w1 ⟨rfl, hb1⟩; have HO1 := hid (H0.out.step hb1); clear hb1)
        go_ret
        refine ⟨_, rfl, ?_, ?_⟩
        · rw [HS0.out]
          exact (own_lit (w1.alloc (.cells #[.int .i64 a, .int .i64 c, .int .i64 0] 147)) [a, c] (by simp) (w1.heap.size + 1) (by simp) 2 rfl).base (by have := HO1.out.2; omega)
        · exact ((HO1.out.alloc).alloc).1
      · have HS0 : Hid (apF (n + 1) r = [a, c, t]) := by show _ = _; rw [HE.out, HSL.out, if_neg ht]
        have htz : (t == 0) = false := by simpa using ht
        clear HSL HE
        go_enter Tryz.func68, Tryz.ntmps68
        go_wp2_with (go_at_call 102; refine (HSp.out _).mono ?_; rintro e w1 ⟨rfl, hb1⟩; have HO1 := hid (H0.out.step hb1); clear hb1)
        go_ret
        refine ⟨_, rfl, ?_, ?_⟩
        · rw [HS0.out]
          exact (own_lit (w1.alloc (.cells #[.int .i64 a, .int .i64 c, .int .i64 t] 147)) [a, c, t] (by simp) (w1.heap.size + 1) (by simp) 3 rfl).base (by have := HO1.out.2; omega)
        · exact ((HO1.out.alloc).alloc).1
    · have HSp := hid (fun w => rparts_no r w (by
        have hn : ¬ (44032 ≤ r ∧ r < 44032 + 11172) := fun h => hs (decide_eq_true h)
        omega))
      rw [if_neg hs] at hok
      have HE : Hid (apF (n + 1) r = if (dnP r).2.2 = 1 then apF n (dnP r).1 else if (dnP r).2.2 = 2 then apF n (dnP r).1 ++ apF n (dnP r).2.1 else [r]) := by show _ = _; simp only [apF]; rw [if_neg hs]
      have hd3 : 0 ≤ (dnP r).2.2 ∧ (dnP r).2.2 ≤ 2 := by
        have := d_bd r
        rw [← (dn_d r).2.2]; exact this.2.2
      obtain ⟨y1, y2, y3, hy⟩ : ∃ y1 y2 y3, dnP r = (y1, y2, y3) := ⟨_, _, _, rfl⟩
      have HDn := hid (fun (W : World) (h : RR3 W g allP) => rdown_any (cap := cap) h hll r (y1 := y1) (y2 := y2) (y3 := y3) hy)
      have HRs := hid (fun (W : World) (h : Below w.heap.size w W) => hR.step h)
      rw [hy] at hok HE hd3
      simp only at hok HE hd3
      have hl1 := hlenA y1
      have hl2 := hlenA y2
      clear ih hR hs hy hlenA
      by_cases h0 : y3 = 0
      · have HR0 : Hid (apF (n + 1) r = [r]) := by show _ = _; rw [HE.out, if_neg (by omega), if_neg (by omega)]
        subst h0
        clear hok HE hd3 hl1 hl2
        generalize allP.length = al at *
        go_enter Tryz.func68, Tryz.ntmps68
        go_wp2_with (first | (go_at_call 102; refine (HSp.out _).mono ?_; rintro e w1 ⟨rfl, hb1⟩; have HO1 := hid ((H0.out.step hb1).alloc (o := .cells #[.int .i64 0, .int .i64 0, .int .i64 0] 147)); clear hb1) | (go_at_call 63; refine (HDn.out _ (HRs.out _ HO1.out.1)).mono ?_; rintro e w2 ⟨rfl, hb2⟩; have HO2 := hid (HO1.out.step hb2); clear hb2))
        go_ret
        refine ⟨_, rfl, ?_, ?_⟩
        · rw [HR0.out]
          exact (own_lit (w2.alloc (.cells #[.int .i64 y1, .int .i64 y2] 98)) [r] (by simp) (w2.heap.size + 1) (by simp) 1 rfl).base (by have := HO2.out.2; omega)
        · exact ((HO2.out.alloc).alloc).1
      · have h0' : (y3 == 0) = false := by simpa using h0
        by_cases h1 : y3 = 1
        · subst h1
          have HR1 : Hid (apF (n + 1) r = apF n y1) := by show _ = _; rw [HE.out, if_pos rfl]
          rw [if_pos rfl] at hok
          clear HE hd3 hl1 hl2
          have HI := hid (fun (W : World) (h : Below w.heap.size w W) => HIH.out y1 hok W (HRs.out _ h))
          clear hok HIH
          generalize allP.length = al at *
          go_enter Tryz.func68, Tryz.ntmps68
          go_wp2_with (first | (go_at_call 102; refine (HSp.out _).mono ?_; rintro e w1 ⟨rfl, hb1⟩; have HO1 := hid ((H0.out.step hb1).alloc (o := .cells #[.int .i64 0, .int .i64 0, .int .i64 0] 147)); clear hb1) | (go_at_call 63; refine (HDn.out _ (HRs.out _ HO1.out.1)).mono ?_; rintro e w2 ⟨rfl, hb2⟩; have HO2 := hid ((HO1.out.step hb2).alloc (o := .cells #[.int .i64 y1, .int .i64 y2] 98)); clear hb2) | (go_at_call 68; refine (HI.out _ HO2.out.1).mono ?_; rintro e w3 ⟨v3, rfl, h3, h4⟩; have HO3 := hid (And.intro (h3.base HO2.out.2) (HO2.out.step h4)); clear h3 h4))
          go_ret
          exact ⟨_, rfl, by rw [HR1.out]; exact HO3.out.1, HO3.out.2.1⟩
        · have h2 : y3 = 2 := by omega
          subst h2
          have HR2 : Hid (apF (n + 1) r = apF n y1 ++ apF n y2) := by show _ = _; rw [HE.out, if_neg (by decide), if_pos rfl]
          rw [if_neg (by decide), if_pos rfl, Bool.and_eq_true] at hok
          have HI1 := hid (fun (W : World) (h : Below w.heap.size w W) => HIH.out y1 hok.1 W (HRs.out _ h))
          have HI2 := hid (fun (W : World) (h : Below w.heap.size w W) => HIH.out y2 hok.2 W (HRs.out _ h))
          have hsum : (apF n y1).length + (apF n y2).length ≤ 1000000000 := by
            have e : 3 * 2 ^ n ≤ 500000000 := hn6
            omega
          clear hok HIH HE hd3 hl1 hl2 h0 h0' h1
          generalize allP.length = al at *
          go_enter Tryz.func68, Tryz.ntmps68
          go_wp2_with (first | (go_at_call 102; refine (HSp.out _).mono ?_; rintro e w1 ⟨rfl, hb1⟩; have HO1 := hid ((H0.out.step hb1).alloc (o := .cells #[.int .i64 0, .int .i64 0, .int .i64 0] 147)); clear hb1) | (go_at_call 63; refine (HDn.out _ (HRs.out _ HO1.out.1)).mono ?_; rintro e w2 ⟨rfl, hb2⟩; have HO2 := hid ((HO1.out.step hb2).alloc (o := .cells #[.int .i64 y1, .int .i64 y2] 98)); have hc2 : Hid ((w2.alloc (.cells #[.int .i64 y1, .int .i64 y2] 98)).cell? ⟨w2.heap.size, 1, none⟩ = some (.int .i64 y2) ∧ w2.heap.size < (w2.alloc (.cells #[.int .i64 y1, .int .i64 y2] 98)).heap.size) := ⟨by unfold World.cell?; rw [heap_new]; rfl, by simp⟩; clear hb2))
          refine (HI1.out _ HO2.out.1).mono ?_
          rintro e w3 ⟨v3, rfl, h3, h4⟩
          have HO3 := hid (And.intro (h3.base HO2.out.2) (HO2.out.step h4))
          have hc3 := (h4.cell (p := ⟨w2.heap.size, 1, none⟩) hc2.out.2).trans hc2.out.1
          clear h3 h4 hc2
          go_wp2_with fail
          refine (HI2.out _ HO3.out.2.1).mono ?_
          rintro e w4 ⟨v4, rfl, h3, h4⟩
          have HO4 := hid (And.intro (HO3.out.1.step h4) (And.intro h3.sn (HO3.out.2.step h4)))
          clear h3 h4 hc3
          go_wp2_with (at_builtin; refine app_row rfl (.tmp 47) (.tmp 51) rfl w4 w.heap.size v3 v4 _ _ rfl rfl HO4.out.1 HO4.out.2.1 hsum HO4.out.2.2.2 (fun v5 w5 h3 h4 => ?_); have HO5 := hid (And.intro h3 (ok_below h4 HO4.out.2.2)); clear h3 h4)
          go_ret
          exact ⟨_, rfl, by rw [HR2.out]; exact HO5.out.1, HO5.out.2.1⟩

set_option maxRecDepth 100000 in
set_option maxHeartbeats 4000000 in
theorem rnfd_any {w : World} {v : Value} {zs : List Int} (hS : Sn .i64 w v zs) (hn : zs.length ≤ 10000) :
    Calls Tryz.prog 34 #[v] w fun e w' => ∃ v', e = .returned v' ∧ Sn .i64 w' v' (nfdP clsP zs) ∧ Below w.heap.size w w' := by
  obtain ⟨ad, cap, rfl, hS⟩ := hS
  have HS := hid hS
  have H0 := hid (Ok.start w)
  have HA := hid (fun (W : World) (r : Int) (g cap : Nat) (h : RR3 W g allP) => rapart_any (cap := cap) 5 r (ok5 r) (by decide) W h)
  have HAll := hid (rall_any w)
  have HSo := hid (fun (W : World) (v : Value) (l : List Int) (h : Sn .i64 W v l) (hn : l.length ≤ 1000000) => rsort_any h hn)
  generalize hlen : zs.length = len at hn
  have HLn := hid hlen
  clear hS hlen
  go_enter Tryz.func34, Tryz.ntmps34
  go_wp2_with (go_at_call 29; refine HAll.out.mono ?_; rintro e w1 ⟨va, rfl, h1, h2⟩; obtain ⟨g, gcap, rfl, hR⟩ := rr3_of_own h1 (by decide); have H1 := hid (And.intro hR (H0.out.step h2)); clear h1 h2 hR)
  have HO : Hid (Own w1.heap.size (w1.alloc (.cells #[] 3)) (.slice (some ⟨w1.heap.size, 0, none⟩) 0 0) []) := ⟨World.ownsRow_made w1 #[] 0 (Nat.le_refl _) (by unfold maxLen; omega) rfl, trivial⟩
  have hok := hid ((Ok.start w1).alloc (o := .cells #[] 3))
  go_loopg [4, 5] len (fun gg vo vi wr => ∃ k : Nat, vi = .int .i64 k ∧ k ≤ len ∧ gg = len - k ∧ Hid (Own w1.heap.size wr vo ((zs.take k).flatMap apP) ∧ Ok w1.heap.size w1 wr))
  case atStart => exact ⟨0, rfl, Nat.zero_le _, rfl, HO.out, hok.out⟩
  case round =>
    obtain ⟨k, rfl, hk, hg, H⟩ := hrel
    have HG := hid hg
    clear hg HO hok
    by_cases hlt : k < len
    · have hlx : k < zs.length := by rw [HLn.out]; exact hlt
      obtain ⟨bb, off, e0, hb, c1⟩ := HS.out.at_ k hlx
      have e0' := Option.some.inj e0
      subst e0'
      have d1 := (((H1.out.2.1.trans (H.out.2.1.mono H1.out.2.1.size))).cell (p := ⟨bb, off + k, none⟩) hb).trans c1
      have HE : Hid ((zs.take (k + 1)).flatMap apP = (zs.take k).flatMap apP ++ apF 5 zs[k]) := by
        show _ = _
        rw [List.take_succ_eq_append_getElem hlx, List.flatMap_append, List.flatMap_cons, List.flatMap_nil, List.append_nil, ap5]
      have hle : ((zs.take k).flatMap apP).length + (apF 5 zs[k]).length ≤ 1000000000 := by
        have h1 := flat_len (zs.take k)
        rw [List.length_take] at h1
        have h2 := apF_len 5 zs[k]
        omega
      have HA1 := hid (HA.out wr zs[k] g gcap (H1.out.1.step H.out.2.1))
      clear c1
      generalize zs[k] = x at *
      have z1 : (k : Int) < (len : Int) := by omega
      go_wp2_with fail
      refine HA1.out.mono ?_
      rintro e w2 ⟨v2, rfl, h3, h4⟩
      have H2 := hid (And.intro (H.out.1.step h4) (And.intro h3.sn (H.out.2.step h4)))
      clear h3 h4 d1
      go_wp2_with (at_builtin; refine app_row rfl (.tmp 14) (.tmp 20) rfl w2 w1.heap.size _ v2 _ _ rfl rfl H2.out.1 H2.out.2.1 hle H2.out.2.2.2 (fun v5 w5 h3 h4 => ?_); have H5 : Hid (Own w1.heap.size w5 v5 ((zs.take (k + 1)).flatMap apP) ∧ Ok w1.heap.size w1 w5) := ⟨by rw [HE.out]; exact h3, ok_below h4 H2.out.2.2⟩; clear h3 h4)
      go_roundg (len - (k + 1))
      case measure => rw [HG.out]; omega
      case rel => exact ⟨k + 1, by go_num, by omega, rfl, H5.out⟩
    · have e : k = len := by omega
      subst e
      have HW : Hid (Own w1.heap.size wr u4 (zs.flatMap apP) ∧ Ok w1.heap.size w1 wr) := by
        have := H.out
        rw [← HLn.out, List.take_length] at this
        exact this
      have hfl : (zs.flatMap apP).length ≤ 1000000 := Nat.le_trans (flat_len zs) (by rw [HLn.out]; omega)
      have HSt := hid (HSo.out wr u4 (zs.flatMap apP) HW.out.1.sn hfl)
      go_wp2_with fail
      refine HSt.out.mono ?_
      rintro e w2 ⟨v2, rfl, h3, h4⟩
      have H5 := hid (And.intro h3 (HW.out.2.step h4))
      clear h3 h4
      go_wp2_with fail
      go_ret
      exact ⟨_, rfl, H5.out.1, H1.out.2.1.trans (H5.out.2.1.mono H1.out.2.1.size)⟩
end Nf
end Go.Proofs.YtclcmkklonnalaaGreat

namespace Go.Proofs.YtclcmkklonnalaaGreat
namespace Nf
open Go.RowKit Od Pr Ha

set_option maxRecDepth 100000 in
set_option maxHeartbeats 2000000 in
theorem rmakes_any {w : World} {g cap : Nat} (h : RR3 w g allP) {a b : Int} (ha : I32 a) (hb : I32 b) :
    Calls Tryz.prog 67 #[.slice (some ⟨g, 0, none⟩) allP.length cap, .int .i64 a, .int .i64 b] w fun e w' => e = .returned (.int .i64 (rmk a b)) ∧ Below w.heap.size w w' := by
  have hll : allP.length ≤ 1000 := by decide
  have HJ := hid (rjoin_any a b w ha.1 ha.2 hb.1 hb.2)
  have HU := hid (fun (W : World) (hb : Below w.heap.size w W) => rup_any (cap := cap) (h.step hb) hll a b)
  have HE : Hid (rmk a b = if 0 ≤ rjI a b then rjI a b else rupP allP a b allP) := rfl
  clear h ha hb
  generalize rjI a b = j at *
  generalize rupP allP a b allP = u at *
  generalize allP.length = al at *
  by_cases hj : 0 ≤ j
  · have HR : Hid (rmk a b = j) := by show _ = _; rw [HE.out, if_pos hj]
    go_enter Tryz.func67, Tryz.ntmps67
    go_wp2_with (go_at_call 100; refine HJ.out.mono ?_; rintro e w1 ⟨rfl, hb1⟩)
    go_ret
    exact ⟨ret_int HR.out.symm, hb1⟩
  · have HR : Hid (rmk a b = u) := by show _ = _; rw [HE.out, if_neg hj]
    have hj2 : decide (0 ≤ j) = false := decide_eq_false hj
    go_enter Tryz.func67, Tryz.ntmps67
    go_wp2_with (first | (go_at_call 100; refine HJ.out.mono ?_; rintro e w1 ⟨rfl, hb1⟩; have HB1 := hid hb1; clear hb1) | (go_at_call 101; refine (HU.out w1 HB1.out).mono ?_; rintro e w2 ⟨rfl, hb2⟩))
    go_ret
    exact ⟨ret_int HR.out.symm, HB1.out.trans (hb2.mono HB1.out.size)⟩

theorem blq_take {w : World} {g cap : Nat} {L : List Int} {T : List Value} (h : Blq w g L T) (hc : L.length ≤ cap) (i : Nat) (hi : i ≤ L.length) : Sn .i64 w (.slice (some ⟨g, 0, none⟩) i cap) (L.take i) := by
  have hl : (L.take i).length = i := by rw [List.length_take]; omega
  refine ⟨_, cap, by rw [hl], by omega, fun e => (by cases e), fun j hj => ⟨g, 0, rfl, h.lt, ?_⟩⟩
  rw [Nat.zero_add, List.getElem_take]
  exact h.cell _ _ (List.getElem?_eq_getElem (by omega))
theorem blq_drop {w : World} {g : Nat} {L : List Int} {T : List Value} (h : Blq w g L T) (i n : Nat) (hn : n = L.length - i) (hi : i ≤ L.length) (cp : Nat) (hcp : n ≤ cp) : Sn .i64 w (.slice (some ⟨g, i, none⟩) n cp) (L.drop i) := by
  have hl : (L.drop i).length = n := by rw [List.length_drop, hn]
  refine ⟨_, cp, by rw [hl], by omega, fun e => (by cases e), fun j hj => ⟨g, i, rfl, h.lt, ?_⟩⟩
  rw [List.getElem_drop]
  exact h.cell _ _ (List.getElem?_eq_getElem (by omega))
theorem sn_nil (w : World) (ad : Addr) (cp : Nat) : Sn .i64 w (.slice (some ad) 0 cp) [] := ⟨ad, cp, rfl, Nat.zero_le _, fun e => (by cases e), fun j hj => (by simp at hj)⟩

theorem blq_slp {w : World} {g cap : Nat} {L : List Int} {T : List Value} (h : Blq w g L T) (hc : L.length ≤ cap) : SlP .i64 w (some ⟨g, 0, none⟩) cap L := ⟨hc, fun e => (by cases e), fun j hj => ⟨g, 0, rfl, h.lt, by rw [Nat.zero_add]; exact h.cell _ _ (List.getElem?_eq_getElem hj)⟩⟩
/-- What the reference's Compose holds. -/
structure RC (w1 : World) (s : CS) (R : List Int) (n : Nat) (v : Value) (W : World) : Prop where
  ok : Ok w1.heap.size w1 W
  st : okC s
  i32 : ∀ y ∈ outC s ++ R, I32 y
  len : (outC s ++ R).length = n
  at_ : ∃ g cap T, v = .slice (some ⟨g, 0, none⟩) n cap ∧ n ≤ cap ∧ w1.heap.size ≤ g ∧ Blq W g (outC s ++ R) T
theorem RC.step {w1 : World} {s : CS} {R : List Int} {n : Nat} {v : Value} {W W' : World} (h : RC w1 s R n v W) (hb : Below W.heap.size W W') : RC w1 s R n v W' := by
  obtain ⟨g, cap, T, e, h1, h2, h3⟩ := h.at_
  exact ⟨h.ok.step hb, h.st, h.i32, h.len, g, cap, T, e, h1, h2, h3.step hb⟩
theorem RC.next {w1 : World} {s : CS} {r : Int} {R : List Int} {n : Nat} {v : Value} {W : World} (h : RC w1 s (r :: R) n v W) (ht : tryC clsP s r = false) : RC w1 (stepC clsP s r) R n v W := by
  have e : outC (stepC clsP s r) ++ R = outC s ++ r :: R := by rw [outC_no clsP s r ht]; simp
  obtain ⟨g, cap, T, e1, h1, h2, h3⟩ := h.at_
  refine ⟨h.ok, okC_step r h.st, ?_, ?_, g, cap, T, e1, h1, h2, ?_⟩
  · rw [e]; exact h.i32
  · rw [e]; exact h.len
  · rw [e]; exact h3

theorem RC.join {w1 : World} {A M : List Int} {x r : Int} {R : List Int} {n : Nat} {v : Value} {W W5 W7 : World} (h : RC w1 (A, some x, M) (r :: R) n v W) (ht : tryC clsP (A, some x, M) r = true) (hb : Below W.heap.size W W5) (h7 : Below W5.heap.size W5 W7) {g7 cap7 m an : Nat} {T7 : List Value} (hm : m + 1 = n) (hc : m ≤ cap7) (hg : W5.heap.size ≤ g7) (hB : Blq W7 g7 ([] ++ (A ++ [x] ++ M) ++ R) T7) (han : A.length = an) (z : Int) (hz : mkI x r = z) :
    RC w1 (stepC clsP (A, some x, M) r) R m (.slice (some ⟨g7, 0, none⟩) m cap7) (W7.setCell ⟨g7, an, none⟩ (.int .i64 z)) := by
  subst hz
  subst han
  obtain ⟨y, e, hmk⟩ := try_some ht
  simp only [Option.some.injEq] at e
  subst e
  rw [step_join ht]
  have e2 : ([] ++ (A ++ [x] ++ M) ++ R).set A.length (mkI x r) = outC (A, some (mkI x r), M) ++ R := by simp [outC]
  have hl := h.len
  have hb7 : Below w1.heap.size w1 W7 := (h.ok.1.trans (hb.mono h.ok.2)).trans (h7.mono (Nat.le_trans h.ok.2 hb.size))
  refine ⟨⟨hb7.setCell (p := ⟨g7, A.length, none⟩) (Nat.le_trans (Nat.le_trans h.ok.2 hb.size) hg) _, by have := hb7.size; simpa [World.setCell] using this⟩, ?_, ?_, ?_, g7, cap7, T7, rfl, hc, Nat.le_trans (Nat.le_trans h.ok.2 hb.size) hg, ?_⟩
  · have := okC_step r h.st
    rwa [step_join ht] at this
  · intro y hy
    by_cases e : y = mkI x r
    · rw [e]; exact mk_I32 x r hmk
    · refine h.i32 y ?_
      simp [outC] at hy ⊢
      rcases hy with hy | hy | hy | hy
      · exact .inl hy
      · exact (e hy).elim
      · exact .inr (.inr (.inl hy))
      · exact .inr (.inr (.inr (.inr hy)))
  · simp [outC] at hl ⊢
    omega
  · rw [← e2]
    exact hB.set A.length (mkI x r) (by simp)

/-- A slice of ints in a block that was made behind a world. -/
def Sb (w0 w : World) (v : Value) (l : List Int) : Prop := ∃ g cap T, v = .slice (some ⟨g, 0, none⟩) l.length cap ∧ l.length ≤ cap ∧ w0.heap.size ≤ g ∧ Blq w g l T
theorem Sb.sn {w0 w : World} {v : Value} {l : List Int} (h : Sb w0 w v l) : Sn .i64 w v l := by
  obtain ⟨g, cap, T, rfl, hc, _, hB⟩ := h
  exact hB.sl cap hc
theorem Sb.old {w0 w1 w : World} {v : Value} {l : List Int} (h : Sb w1 w v l) (hs : w0.heap.size ≤ w1.heap.size) : Sb w0 w v l := by
  obtain ⟨g, cap, T, e, hc, hg, hB⟩ := h
  exact ⟨g, cap, T, e, hc, Nat.le_trans hs hg, hB⟩
set_option maxRecDepth 100000 in
set_option maxHeartbeats 8000000 in
theorem rcomposeB_any {w : World} {v : Value} {zs : List Int} (hS : Sn .i64 w v zs) (hz : ∀ z ∈ zs, I32 z) (hn : zs.length ≤ 1000000) :
    Calls Tryz.prog 33 #[v] w fun e w' => ∃ v', e = .returned v' ∧ Sb w w' v' (compP clsP zs) ∧ Below w.heap.size w w' := by
  have HS := hid hS
  obtain ⟨ad0, cap0, rfl, hS⟩ := hS
  have HZ := hid hz
  have H0 := hid (Ok.start w)
  have HAll := hid (rall_any w)
  have HMk := hid (fun (W : World) (g cap : Nat) (h : RR3 W g allP) (a b : Int) (ha : I32 a) (hb : I32 b) => rmakes_any (cap := cap) h ha hb)
  generalize hlen : zs.length = len at hn
  have HLn := hid hlen
  clear hS hlen hz
  rw [HLn.out] at HS
  go_enter Tryz.func33, Tryz.ntmps33
  go_wp2_with (first | (go_at_call 29; refine HAll.out.mono ?_; rintro e w1 ⟨va, rfl, h1, h2⟩; obtain ⟨g, gcap, rfl, hR⟩ := rr3_of_own h1 (by decide); have H1 := hid (And.intro hR (H0.out.step h2)); clear h1 h2 hR; have HO : Hid (Own w1.heap.size (w1.alloc (.cells #[] 3)) (.slice (some ⟨w1.heap.size, 0, none⟩) 0 0) []) := ⟨World.ownsRow_made w1 #[] 0 (Nat.le_refl _) (by unfold maxLen; omega) rfl, trivial⟩; have hok := hid ((Ok.start w1).alloc (o := .cells #[] 3))) | (at_builtin; refine app_row rfl (.tmp 11) (.tmp 12) rfl (w1.alloc (.cells #[] 3)) w1.heap.size (.slice (some ⟨w1.heap.size, 0, none⟩) 0 0) (.slice (some ad0) len cap0) [] zs rfl rfl HO.out ((HS.out.step H1.out.2.1).step ((Below.refl _ _).alloc (Nat.le_refl _) _)) (by have := HLn.out; simp; omega) hok.out.2 (fun v' w2 h3 h4 => ?_)))
  have HST : Hid (RC w1 ([], none, []) zs len v' w2) := by
    obtain ⟨g2, cap2, T2, e2, hc2, hg2, hB2⟩ := own_blq h3.1 h3.2
    exact ⟨ok_below h4 hok.out, ⟨fun m hm => by simp at hm, rfl⟩, HZ.out, HLn.out, g2, cap2, T2, by rw [e2]; simp [HLn.out], by have := HLn.out; have h5 := hc2; simp at h5; omega, hg2, hB2⟩
  clear h3 h4 HO hok HS
  generalize allP.length = al at *
  go_loopg [4, 5] len (fun gg vo vi wr => ∃ k : Nat, k ≤ len ∧ gg = len - k ∧ ∃ i n : Nat, vi = .int .i64 (i : Int) ∧ i ≤ k ∧ n = i + (len - k) ∧ Hid (∃ s : CS, s = (zs.take k).foldl (stepC clsP) ([], none, []) ∧ (outC s).length = i ∧ RC w1 s (zs.drop k) n vo wr))
  case atStart => exact ⟨0, Nat.zero_le _, rfl, 0, len, rfl, Nat.le_refl _, by omega, ([], none, []), by rw [List.take_zero]; rfl, rfl, by rw [List.drop_zero]; exact HST.out⟩
  case round =>
    obtain ⟨k, hk, hg, i, n, rfl, hik, hn2, H⟩ := hrel
    obtain ⟨s, hs, hi, hRC⟩ := H.out
    have HG := hid hg
    clear hg HST H
    by_cases hlt : k < len
    · have hlx : k < zs.length := by rw [HLn.out]; exact hlt
      have hdr : zs.drop k = zs[k] :: zs.drop (k + 1) := List.drop_eq_getElem_cons hlx
      have hfold : (zs.take (k + 1)).foldl (stepC clsP) ([], none, []) = stepC clsP s zs[k] := by
        rw [List.take_succ_eq_append_getElem hlx, List.foldl_append, ← hs]; rfl
      rw [hdr] at hRC
      have HFo := hid hfold
      have HR1 : Hid (zs.drop (k + 1) = zs.drop (k + 1)) := rfl
      generalize zs[k] = r at *
      generalize hR : zs.drop (k + 1) = R at *
      have HRd := hid hR
      clear hs hdr hfold hR HR1
      have hin : i < n := by omega
      have hnm : n ≤ 1000000 := by omega
      obtain ⟨gn, cap, T, rfl, hcap, hgl, hB⟩ := hRC.at_
      have hLs := hRC.len
      have HSp := hid (fun (W : World) (h : Below wr.heap.size wr W) => blq_slp (hB.step h) (cap := cap) (by omega))
      have HStart := hid (rstart_any hLs (HSp.out wr (Below.refl _ _)) hnm i (by omega))
      have e1 := start_at s hRC.st (r :: R)
      rw [hi] at e1
      rw [e1] at HStart
      have HRC := hid hRC
      have HI := hid hi
      have hI32r : Hid (I32 r) := hRC.i32 r (by simp)
      have HBl := hid (fun (W : World) (h : Below wr.heap.size wr W) => rblocked_any hLs (HSp.out W h) hnm i hin)
      have z1 : (i : Int) < (n : Int) := by omega
      have hi6 : i ≤ 1000000 := by omega
      have HN2 : Hid (n = i + (len - k) ∧ i ≤ k ∧ k < len ∧ w1.heap.size ≤ gn) := ⟨hn2, hik, hlt, hgl⟩
      clear e1 hn2 hik hk hgl hlx hlt
      obtain ⟨A, o, M⟩ := s
      cases o with
      | none =>
        have e2 : stI (A, none, M) = -1 := rfl
        rw [e2] at HStart
        have HT : Hid (tryC clsP (A, none, M) r = false) := rfl
        clear e2 hRC hB hLs hi HBl
        go_wp2_with fail
        refine HStart.out.mono ?_
        rintro e w3 ⟨rfl, hb3⟩
        have HN := hid ((HRC.out.step hb3).next HT.out)
        clear hb3
        go_wp2_with fail
        go_roundg (len - (k + 1))
        case measure => rw [HG.out]; have := HN2.out; omega
        case rel => exact ⟨k + 1, by have := HN2.out; omega, rfl, i + 1, n, by go_num, by have := HN2.out; omega, by have := HN2.out; omega, _, HFo.out.symm, by rw [outC_no clsP _ r HT.out, List.length_append, HI.out]; rfl, by rw [HRd.out]; exact HN.out⟩
      | some x =>
        have e2 : stI (A, some x, M) = (A.length : Int) := rfl
        rw [e2] at HStart
        have e3 := blocked_at A M x r hRC.st R
        rw [hi] at e3
        have hAi : A.length < i := by rw [← hi]; simp [outC]
        have hcx : Hid (∀ (W : World), Below wr.heap.size wr W → W.cell? ⟨gn, A.length, none⟩ = some (.int .i64 x) ∧ W.cell? ⟨gn, i, none⟩ = some (.int .i64 r)) := by
          refine hid (fun W h => ⟨(hB.step h).cell _ _ ?_, (hB.step h).cell _ _ ?_⟩)
          · simp [outC]
          · rw [← hi]; simp
        have hI32x : Hid (I32 x) := hRC.i32 x (by simp [outC])
        have HBq := hid hB
        have HLs := hid hLs
        have HTr : Hid (tryC clsP (A, some x, M) r = (!(decide (0 < gr clsP M) && decide (clsP r ≤ gr clsP M)) && mkB x r)) := rfl
        have HMe := hid (rmk_eq x r)
        have HMp : Hid (mkB x r = true → 0 ≤ mkI x r) := fun h => mk_pos h
        have HMi : Hid (mkB x r = true → I32 (mkI x r)) := fun h => mk_I32 x r h
        generalize hbl : (decide (0 < gr clsP M) && decide (clsP r ≤ gr clsP M)) = bl at *
        rw [e3] at HBl
        clear e2 e3 hRC hB hLs hi hbl
        generalize hAn : A.length = an at *
        have HAn := hid hAn
        clear hAn
        have z2 : (0 : Int) ≤ (an : Int) := by omega
        have z3 : (an : Int) < (n : Int) := by omega
        have HRR : Hid (∀ (W : World), Below wr.heap.size wr W → RR3 W g allP) := fun W h => H1.out.1.step (HRC.out.ok.1.trans (h.mono HRC.out.ok.2))
        cases bl with
        | true =>
          have HT : Hid (tryC clsP (A, some x, M) r = false) := by show _ = _; rw [HTr.out]; rfl
          clear HTr HMe HMp HMi
          go_wp2_with fail
          refine HStart.out.mono ?_
          rintro e w3 ⟨rfl, hb3⟩
          have HB3 := hid hb3
          clear hb3
          go_wp2_with fail
          refine (HBl.out w3 HB3.out).mono ?_
          rintro e w4 ⟨rfl, hb4⟩
          have HN := hid (((HRC.out.step HB3.out).step hb4).next HT.out)
          clear hb4
          go_wp2_with fail
          go_roundg (len - (k + 1))
          case measure => rw [HG.out]; have := HN2.out; omega
          case rel => exact ⟨k + 1, by have := HN2.out; omega, rfl, i + 1, n, by go_num, by have := HN2.out; omega, by have := HN2.out; omega, _, HFo.out.symm, by rw [outC_no clsP _ r HT.out, List.length_append, HI.out]; rfl, by rw [HRd.out]; exact HN.out⟩
        | false =>
          go_wp2_with fail
          refine HStart.out.mono ?_
          rintro e w3 ⟨rfl, hb3⟩
          have HB3 := hid hb3
          clear hb3
          go_wp2_with fail
          refine (HBl.out w3 HB3.out).mono ?_
          rintro e w4 ⟨rfl, hb4⟩
          have HB4 := hid (HB3.out.trans (hb4.mono HB3.out.size))
          clear hb4
          have HB4d : Hid (Below wr.heap.size wr w4.drew) := HB4.out.drew
          have HMk1 := hid (HMk.out w4.drew g gcap (HRR.out _ HB4d.out) x r hI32x.out hI32r.out)
          rw [HMe.out] at HMk1
          by_cases hm : mkB x r = true
          · rw [if_pos hm] at HMk1
            have HT : Hid (tryC clsP (A, some x, M) r = true) := by show _ = _; rw [HTr.out, hm]; rfl
            have hzp := HMp.out hm
            have HZi := hid (HMi.out hm)
            have HJ := hid (step_join HT.out)
            clear HTr HMe HMp HMi hm
            have HZe : Hid (∃ z, mkI x r = z) := ⟨_, rfl⟩
            generalize hze : mkI x r = z at *
            have HZ2 := hid hze
            clear hze HZe
            have hTk : Hid (∀ (W : World), Below wr.heap.size wr W → Sn .i64 W (.slice (some ⟨gn, 0, none⟩) i cap) (A ++ [x] ++ M)) := by
              refine hid (fun W h => ?_)
              have := blq_take ((HBq.out).step h) (cap := cap) (by rw [HLs.out]; exact hcap) i (by rw [HLs.out]; omega)
              rwa [show (outC (A, some x, M) ++ r :: R).take i = A ++ [x] ++ M by rw [← HI.out, List.take_left]; rfl] at this
            have hDp : Hid (∀ (W : World) (ad : Addr) (m cp : Nat), Below wr.heap.size wr W → m + i + 1 = n → m ≤ cp → (ad = ⟨gn, i + 1, none⟩ ∨ m = 0) → Sn .i64 W (.slice (some ad) m cp) R) := by
              refine hid (fun W ad m cp h hm hcp had => ?_)
              have e5 : (outC (A, some x, M) ++ r :: R).drop (i + 1) = R := by rw [← HI.out]; simp [List.drop_append]
              rcases had with rfl | rfl
              · have := blq_drop ((HBq.out).step h) (i + 1) m (by rw [HLs.out]; omega) (by rw [HLs.out]; omega) cp hcp
                rwa [e5] at this
              · have hR0 : R = [] := by
                  have h1 := HLs.out
                  have h2 := HI.out
                  rw [List.length_append, h2, List.length_cons] at h1
                  exact List.eq_nil_of_length_eq_zero (by omega)
                rw [hR0]; exact sn_nil W ad cp
            have q1 : (i : Int) ≤ (cap : Int) := by omega
            have q2 : (n : Int) ≤ (cap : Int) := by omega
            have q3 : (i : Int) + 1 ≤ (n : Int) := by omega
            have q4 : ((i : Int) + 1).toNat = i + 1 := by omega
            have q6 : (0 : Int) ≤ (i : Int) + 1 := by omega
            have q7 : i + 1 ≤ n := by omega
            obtain ⟨m, hm1⟩ : ∃ m, ([] ++ (A ++ [x] ++ M) ++ R).length = m := ⟨_, rfl⟩
            have HLm := hid hm1
            have HLm2 : Hid (m + 1 = n) := by
              show _ = _
              have h1 := HLs.out
              rw [← hm1]
              simp [outC] at h1 ⊢
              omega
            have HLe1 : Hid (([] : List Int).length + (A ++ [x] ++ M).length ≤ 1000000000) := by
              show _ ≤ _
              have h1 := HI.out
              simp [outC] at h1 ⊢
              omega
            have HLe2 : Hid (([] ++ (A ++ [x] ++ M)).length + R.length ≤ 1000000000) := by
              show _ ≤ _
              have h1 := hm1
              have h2 := HLm2.out
              simp at h1 ⊢
              omega
            have HCx : Hid (([] ++ (A ++ [x] ++ M) ++ R)[an]? = some x) := by
              show _ = _
              rw [← HAn.out]; simp
            have zm : (an : Int) < (m : Int) := by have := HLm2.out; omega
            clear hm1
            by_cases q5 : cap = i + 1
            · have q5' : i + 1 = n := by omega
              have hcn : n = cap := by omega
              subst hcn
              rw [q5'] at q4
              clear q5
              have q8 : ¬ n = 0 := by omega
              go_wp2_with fail
              go_region_held3 (fun w' => w'.cell? ⟨gn, an, none⟩ = some (.int .i64 x) ∧ w'.cell? ⟨gn, i, none⟩ = some (.int .i64 r))
                (first | exact hcx.out _ HB4.out | exact hcx.out _ HB4d.out | exact hcx.out _ HB5.out)
                (first | (go_at_call 67; refine HMk1.out.mono ?_; rintro e w5 ⟨rfl, hb5⟩; have HB5 := hid (HB4d.out.trans (hb5.mono HB4d.out.size)); clear hb5))
              have HO6 : Hid (Own w5.heap.size (w5.alloc (.cells #[] 3)) (.slice (some ⟨w5.heap.size, 0, none⟩) 0 0) [] ∧ Below wr.heap.size wr (w5.alloc (.cells #[] 3)) ∧ Below w5.heap.size w5 (w5.alloc (.cells #[] 3))) := ⟨⟨World.ownsRow_made w5 #[] 0 (Nat.le_refl _) (by unfold maxLen; omega) rfl, trivial⟩, HB5.out.trans (((Below.refl w5.heap.size w5).alloc (Nat.le_refl _) _).mono HB5.out.size), (Below.refl w5.heap.size w5).alloc (Nat.le_refl _) _⟩
              go_wp2_with (first | (at_builtin; refine app_row rfl (.tmp 42) (.tmp 45) rfl (w5.alloc (.cells #[] 3)) w5.heap.size (.slice (some ⟨w5.heap.size, 0, none⟩) 0 0) (.slice (some ⟨gn, 0, none⟩) i n) [] (A ++ [x] ++ M) rfl rfl HO6.out.1 (hTk.out _ HO6.out.2.1) HLe1.out (by simp) (fun v6 w6 h5 h6 => ?_); have HO7 : Hid (Own w5.heap.size w6 v6 ([] ++ (A ++ [x] ++ M)) ∧ Below w5.heap.size w5 w6) := ⟨h5, HO6.out.2.2.trans h6⟩; clear h5 h6) | (at_builtin; refine app_row rfl (.tmp 47) (.tmp 51) rfl w6 w5.heap.size v6 (.slice (some ⟨gn, 0, none⟩) 0 0) ([] ++ (A ++ [x] ++ M)) R rfl rfl HO7.out.1 (hDp.out _ _ _ _ (HB5.out.trans (HO7.out.2.mono HB5.out.size)) (by omega) (by omega) (.inr rfl)) HLe2.out HO7.out.2.size (fun v7 w7 h5 h6 => ?_); obtain ⟨g7, cap7, T7, e7, hc7, hg7, hB7⟩ := own_blq h5.1 h5.2; rw [HLm.out] at e7 hc7; subst e7; have HO8 : Hid (Blq w7 g7 ([] ++ (A ++ [x] ++ M) ++ R) T7 ∧ Below w5.heap.size w5 w7 ∧ w5.heap.size ≤ g7 ∧ m ≤ cap7) := ⟨hB7, HO7.out.2.trans h6, hg7, hc7⟩; have fr7 := fun k => hB7.frozen k; have cl7 := hB7.cell an x HCx.out; clear h5 h6 hB7 hg7 hc7))
              have HN := hid (HRC.out.join HT.out HB5.out HO8.out.2.1 HLm2.out HO8.out.2.2.2 HO8.out.2.2.1 HO8.out.1 HAn.out z HZ2.out)
              go_roundg (len - (k + 1))
              case measure => rw [HG.out]; have := HN2.out; omega
              case rel => exact ⟨k + 1, by have := HN2.out; omega, rfl, i, m, rfl, by have := HN2.out; omega, by have := HN2.out; have := HLm2.out; omega, _, HFo.out.symm, by rw [HJ.out, ← HI.out]; simp [outC], by rw [HRd.out]; exact HN.out⟩
            · have q8 : ¬ cap = 0 := by omega
              go_wp2_with fail
              go_region_held3 (fun w' => w'.cell? ⟨gn, an, none⟩ = some (.int .i64 x) ∧ w'.cell? ⟨gn, i, none⟩ = some (.int .i64 r))
                (first | exact hcx.out _ HB4.out | exact hcx.out _ HB4d.out | exact hcx.out _ HB5.out)
                (first | (go_at_call 67; refine HMk1.out.mono ?_; rintro e w5 ⟨rfl, hb5⟩; have HB5 := hid (HB4d.out.trans (hb5.mono HB4d.out.size)); clear hb5))
              have HO6 : Hid (Own w5.heap.size (w5.alloc (.cells #[] 3)) (.slice (some ⟨w5.heap.size, 0, none⟩) 0 0) [] ∧ Below wr.heap.size wr (w5.alloc (.cells #[] 3)) ∧ Below w5.heap.size w5 (w5.alloc (.cells #[] 3))) := ⟨⟨World.ownsRow_made w5 #[] 0 (Nat.le_refl _) (by unfold maxLen; omega) rfl, trivial⟩, HB5.out.trans (((Below.refl w5.heap.size w5).alloc (Nat.le_refl _) _).mono HB5.out.size), (Below.refl w5.heap.size w5).alloc (Nat.le_refl _) _⟩
              go_wp2_with (first | (at_builtin; refine app_row rfl (.tmp 42) (.tmp 45) rfl (w5.alloc (.cells #[] 3)) w5.heap.size (.slice (some ⟨w5.heap.size, 0, none⟩) 0 0) (.slice (some ⟨gn, 0, none⟩) i cap) [] (A ++ [x] ++ M) rfl rfl HO6.out.1 (hTk.out _ HO6.out.2.1) HLe1.out (by simp) (fun v6 w6 h5 h6 => ?_); have HO7 : Hid (Own w5.heap.size w6 v6 ([] ++ (A ++ [x] ++ M)) ∧ Below w5.heap.size w5 w6) := ⟨h5, HO6.out.2.2.trans h6⟩; clear h5 h6) | (at_builtin; refine app_row rfl (.tmp 47) (.tmp 51) rfl w6 w5.heap.size v6 (.slice (some ⟨gn, i + 1, none⟩) (n - (i + 1)) (cap - (i + 1))) ([] ++ (A ++ [x] ++ M)) R rfl rfl HO7.out.1 (hDp.out _ _ _ _ (HB5.out.trans (HO7.out.2.mono HB5.out.size)) (by omega) (by omega) (.inl rfl)) HLe2.out HO7.out.2.size (fun v7 w7 h5 h6 => ?_); obtain ⟨g7, cap7, T7, e7, hc7, hg7, hB7⟩ := own_blq h5.1 h5.2; rw [HLm.out] at e7 hc7; subst e7; have HO8 : Hid (Blq w7 g7 ([] ++ (A ++ [x] ++ M) ++ R) T7 ∧ Below w5.heap.size w5 w7 ∧ w5.heap.size ≤ g7 ∧ m ≤ cap7) := ⟨hB7, HO7.out.2.trans h6, hg7, hc7⟩; have fr7 := fun k => hB7.frozen k; have cl7 := hB7.cell an x HCx.out; clear h5 h6 hB7 hg7 hc7))
              have HN := hid (HRC.out.join HT.out HB5.out HO8.out.2.1 HLm2.out HO8.out.2.2.2 HO8.out.2.2.1 HO8.out.1 HAn.out z HZ2.out)
              go_roundg (len - (k + 1))
              case measure => rw [HG.out]; have := HN2.out; omega
              case rel => exact ⟨k + 1, by have := HN2.out; omega, rfl, i, m, rfl, by have := HN2.out; omega, by have := HN2.out; have := HLm2.out; omega, _, HFo.out.symm, by rw [HJ.out, ← HI.out]; simp [outC], by rw [HRd.out]; exact HN.out⟩
          · rw [if_neg hm] at HMk1
            have HT : Hid (tryC clsP (A, some x, M) r = false) := by show _ = _; rw [HTr.out]; simpa using hm
            clear HTr HMe HMp HMi hm
            go_wp2_with fail
            go_region_held3 (fun w' => w'.cell? ⟨gn, an, none⟩ = some (.int .i64 x) ∧ w'.cell? ⟨gn, i, none⟩ = some (.int .i64 r))
              (first | exact hcx.out _ HB4.out | exact hcx.out _ HB4d.out | exact hcx.out _ HB5.out)
              (first | (go_at_call 67; refine HMk1.out.mono ?_; rintro e w5 ⟨rfl, hb5⟩; have HB5 := hid (HB4d.out.trans (hb5.mono HB4d.out.size)); clear hb5))
            have HN := hid ((HRC.out.step HB5.out).next HT.out)
            go_wp2_with fail
            go_roundg (len - (k + 1))
            case measure => rw [HG.out]; have := HN2.out; omega
            case rel => exact ⟨k + 1, by have := HN2.out; omega, rfl, i + 1, n, by go_num, by have := HN2.out; omega, by have := HN2.out; omega, _, HFo.out.symm, by rw [outC_no clsP _ r HT.out, List.length_append, HI.out]; rfl, by rw [HRd.out]; exact HN.out⟩
    · have e : k = len := by omega
      subst e
      have HF : Hid (compP clsP zs = outC s) := by
        show outC _ = _
        rw [hs, ← HLn.out, List.take_length]
      have hd0 : zs.drop k = [] := by rw [← HLn.out, List.drop_length]
      rw [hd0] at hRC
      obtain ⟨gn, cap, T, rfl, hcap, hgl, hB⟩ := hRC.at_
      have HRC := hid hRC
      have hLs := hRC.len
      have HBq := hid hB
      rw [List.append_nil] at hLs HBq
      have HL2 := hid hLs
      have hni : n = i := by omega
      subst hni
      have HGl := hid hgl
      clear hRC hB hs hi hd0 hn2 hik hk hlt hgl
      have z1 : ¬ (n : Int) < (n : Int) := by omega
      go_wp2_with fail
      go_ret
      exact ⟨_, rfl, by rw [HF.out]; exact ⟨gn, cap, T, by rw [HL2.out]; rfl, by rw [HL2.out]; exact hcap, Nat.le_trans H1.out.2.1.size HGl.out, HBq.out⟩, H1.out.2.1.trans (HRC.out.ok.1.mono H1.out.2.1.size)⟩
theorem rcompose_any {w : World} {v : Value} {zs : List Int} (hS : Sn .i64 w v zs) (hz : ∀ z ∈ zs, I32 z) (hn : zs.length ≤ 1000000) :
    Calls Tryz.prog 33 #[v] w fun e w' => ∃ v', e = .returned v' ∧ Sn .i64 w' v' (compP clsP zs) ∧ Below w.heap.size w w' :=
  (rcomposeB_any hS hz hn).mono fun _ _ ⟨v', h1, h2, h3⟩ => ⟨v', h1, h2.sn, h3⟩
end Nf
end Go.Proofs.YtclcmkklonnalaaGreat

namespace Go.Proofs.YtclcmkklonnalaaGreat
namespace Nf
open Go.RowKit Od Pr Ha

set_option maxRecDepth 100000 in
set_option maxHeartbeats 2000000 in
theorem rnfcB_any {w : World} {v : Value} {zs : List Int} (hS : Sn .i64 w v zs) (hz : ∀ z ∈ zs, I32 z) (hn : zs.length ≤ 10000) :
    Calls Tryz.prog 13 #[v] w fun e w' => ∃ v', e = .returned v' ∧ Sb w w' v' (nfcP clsP zs) ∧ Below w.heap.size w w' := by
  have HN := hid (rnfd_any hS hn)
  have HC := hid (fun (w1 : World) (v1 : Value) (h1 : Sn .i64 w1 v1 (nfdP clsP zs)) => rcomposeB_any h1 (nfd_I32 clsP zs hz) (Nat.le_trans (nfd_len zs) (by omega)))
  clear hS hz hn
  go_enter Tryz.func13, Tryz.ntmps13
  go_wp2_with fail
  refine HN.out.mono ?_
  rintro e w1 ⟨v1, rfl, h1, h2⟩
  have H1 := hid (And.intro h1 h2)
  clear h1 h2
  go_wp2_with fail
  refine (HC.out w1 v1 H1.out.1).mono ?_
  rintro e w2 ⟨v2, rfl, h1, h2⟩
  have H2 := hid (And.intro h1 h2)
  clear h1 h2
  go_wp2_with fail
  go_ret
  exact ⟨_, rfl, H2.out.1.old H1.out.2.size, H1.out.2.trans (H2.out.2.mono H1.out.2.size)⟩
theorem rnfc_any {w : World} {v : Value} {zs : List Int} (hS : Sn .i64 w v zs) (hz : ∀ z ∈ zs, I32 z) (hn : zs.length ≤ 10000) :
    Calls Tryz.prog 13 #[v] w fun e w' => ∃ v', e = .returned v' ∧ Sn .i64 w' v' (nfcP clsP zs) ∧ Below w.heap.size w w' :=
  (rnfcB_any hS hz hn).mono fun _ _ ⟨v', h1, h2, h3⟩ => ⟨v', h1, h2.sn, h3⟩
end Nf
end Go.Proofs.YtclcmkklonnalaaGreat
