import Derived.Test.YtpfnljebofgifabStg15
namespace Go.Proofs.Ytpfnljebofgifab
open Go.RowKit

theorem drewN_add (w : World) (n m : Nat) : (w.drewN n).drewN m = w.drewN (n + m) := World.drewN_drewN w n m

/-- The To ahead of row k. -/
def prevT (l : List (SRow Int)) : Nat → Int
  | 0 => -1
  | k + 1 => (l.getD k ⟨0, 0, 0⟩).t

set_option maxHeartbeats 4000000 in
set_option maxRecDepth 100000 in
theorem rcheck_any {w : World} {v : Value} {l : List (SRow Int)} (h : RIn w v l) (hl : l.length ≤ 60) :
    Calls Try.prog 9 #[v] w fun e w' => e = .returned (.int .i64 (check l)) ∧ ∃ n, w' = w.drewN n := by
  obtain ⟨ao, cap, rfl, hc⟩ := h
  have HC := hid hc
  clear hc
  have hl1 : ¬ (4096 : Int) < (l.length : Int) := by omega
  have H : Hid (check l = chk (-1) l) := if_neg (by omega)
  go_enter Try.func9, Try.ntmps9
  go_wp2
  go_loopg [3] l.length (fun g i wr => ∃ k n : Nat, k ≤ l.length ∧ g = l.length - k ∧ i = .int .i64 k ∧ wr = w.drewN n ∧ Hid (check l = chk (prevT l k) (l.drop k)))
  case atStart => exact ⟨0, 0, Nat.zero_le _, by omega, rfl, rfl, H.out⟩
  case round =>
    clear H
    obtain ⟨k, n, hk, hg, rfl, rfl, H⟩ := hrel
    have HG := hid hg
    clear hg
    by_cases hlt : k < l.length
    · obtain ⟨gb, rfl, hgb, d0, d1, d2⟩ := HC.out k hlt
      have b1 : (0 : Int) ≤ k ∧ (k : Int) < (l.length : Int) := by omega
      have H2 : Hid (check l = if l[k].f < 0 ∨ l[k].t < l[k].f ∨ 1114111 < l[k].t then 7 else if l[k].f ≤ prevT l k then 9 else chk l[k].t (l.drop (k + 1))) := by
        show _ = _
        rw [H.out, List.drop_eq_getElem_cons hlt]; rfl
      have hpt : Hid (prevT l (k + 1) = l[k].t) := by show _ = _; simp [prevT, hlt]
      have hpr : ∀ j, k = j + 1 → w.cell? ⟨gb, j * 3 + 1, none⟩ = some (.int .i64 (prevT l k)) := fun j hj => by
        subst hj
        obtain ⟨g2, e2, _, _, e3, _⟩ := HC.out j (by omega)
        have : gb = g2 := by simpa using e2
        subst this
        rw [e3]; simp [prevT, show j < l.length by omega]
      clear H HC
      generalize l[k] = x at *
      obtain ⟨xf, xt, xv⟩ := x
      simp only at d0 d1 d2 H2 hpt
      by_cases hbad : xf < 0 ∨ xt < xf ∨ 1114111 < xt
      · have H3 : Hid (check l = 7) := by show _ = _; rw [H2.out, if_pos hbad]
        clear H2 hpt hpr
        by_cases c1 : xf < 0
        · clear hbad
          go_wp2_with fail
          go_quiet (fail)
          go_wp2_with fail
          go_ret
          exact ⟨ret_int H3.out.symm, _, drewN_add _ _ _⟩
        · have c1' : decide (xf < 0) = false := decide_eq_false c1
          by_cases c2 : xt < xf
          · clear hbad
            go_wp2_with fail
            go_quiet (fail)
            go_wp2_with fail
            go_ret
            exact ⟨ret_int H3.out.symm, _, drewN_add _ _ _⟩
          · have c2' : decide (xt < xf) = false := decide_eq_false c2
            have c3 : (1114111 : Int) < xt := by omega
            clear hbad
            go_wp2_with fail
            go_quiet (fail)
            go_wp2_with fail
            go_ret
            exact ⟨ret_int H3.out.symm, _, drewN_add _ _ _⟩
      · have c1 : ¬ xf < 0 := by omega
        have c1' : decide (xf < 0) = false := decide_eq_false c1
        have c2 : ¬ xt < xf := by omega
        have c2' : decide (xt < xf) = false := decide_eq_false c2
        have c3 : ¬ (1114111 : Int) < xt := by omega
        have c3' : decide ((1114111 : Int) < xt) = false := decide_eq_false c3
        cases k with
        | zero =>
          have H3 : Hid (check l = chk xt (l.drop 1)) := by
            show _ = _
            rw [H2.out, if_neg hbad, if_neg (by show ¬ xf ≤ -1; omega)]
          clear H2 hbad hpr
          have z1 : ((0 : Nat) : Int) = 0 := rfl
          go_wp2_with fail
          go_quiet (fail)
          go_wp2_with fail
          go_quiet (fail)
          go_wp2_with fail
          go_roundg (l.length - 1)
          case measure => rw [HG.out]; omega
          case rel => exact ⟨1, _, by omega, rfl, by go_num, rfl, by rw [hpt.out]; exact H3.out⟩
        | succ j =>
          have hp := hpr j rfl
          generalize prevT l (j + 1) = pt at *
          have z1 : (0 : Int) < ((j + 1 : Nat) : Int) := by omega
          have z2 : wrap64 (((j + 1 : Nat) : Int) - 1) = (j : Int) := by unfold wrap64; omega
          have z3 : ((j + 1 : Nat) : Int) - 1 = (j : Int) := by omega
          have z4 : (0 : Int) ≤ j ∧ (j : Int) < (l.length : Int) := by omega
          have z5 : IntKind.i64.wrap ((j : Int) + 1 - 1) = (j : Int) := by rw [IntKind.wrap_i64]; omega
          have z6 : (j : Int) + 1 - 1 = (j : Int) := by omega
          by_cases c4 : xf ≤ pt
          · have H3 : Hid (check l = 9) := by show _ = _; rw [H2.out, if_neg hbad, if_pos c4]
            clear H2 hbad hpr hpt
            go_wp2_with fail
            go_quiet (fail)
            go_wp2_with fail
            go_quiet (fail)
            go_wp2_with fail
            go_ret
            exact ⟨ret_int H3.out.symm, _, by rw [drewN_add, drewN_add]⟩
          · have H3 : Hid (check l = chk xt (l.drop (j + 1 + 1))) := by show _ = _; rw [H2.out, if_neg hbad, if_neg c4]
            have c4' : decide (xf ≤ pt) = false := decide_eq_false c4
            clear H2 hbad hpr
            go_wp2_with fail
            go_quiet (fail)
            go_wp2_with fail
            go_quiet (fail)
            go_wp2_with fail
            go_roundg (l.length - (j + 1 + 1))
            case measure => rw [HG.out]; omega
            case rel => exact ⟨j + 1 + 1, _, by omega, rfl, by go_num, rfl, by rw [hpt.out]; exact H3.out⟩
    · have e : k = l.length := by omega
      subst e
      have H3 : Hid (check l = 0) := by show _ = _; rw [H.out, List.drop_length]; rfl
      clear H HC
      go_wp2
      go_ret
      exact ⟨ret_int H3.out.symm, n, rfl⟩

/-- What the first row with r says; else z. -/
def fst' (z : Int) : List (SRow Int) → Int → Int
  | [], _ => z
  | x :: l, r => if x.f ≤ r ∧ r ≤ x.t then x.v else fst' z l r

theorem fst_at (z : Int) : ∀ (l : List (SRow Int)) (a r : Int), Rising a l → fst' z l r = at' z l r
  | [], _, _, _ => rfl
  | x :: l, a, r, h => by
    obtain ⟨h1, h2, h3, h4⟩ := h
    unfold fst'
    have e : at' z (x :: l) r = at' (if x.f ≤ r ∧ r ≤ x.t then x.v else z) l r := rfl
    rw [e]
    split
    · rename_i hin
      rw [at_drop_none]
      intro y hy
      obtain ⟨j, hj⟩ := List.mem_iff_getElem?.1 hy
      have := (rising_after l x.t h4 j y hj).1
      omega
    · exact fst_at z l x.t r h4

theorem at_range {z : Int} {l : List (SRow Int)} {a r : Int} (ha : -1 ≤ a) (h : Rising a l) (hr : r < 0 ∨ 1114111 < r) : at' z l r = z := by
  refine at_drop_none z l r (fun x hx => ?_)
  obtain ⟨j, hj⟩ := List.mem_iff_getElem?.1 hx
  have h1 := (rising_after l a h j x hj).1
  have : ∀ (l : List (SRow Int)) (a : Int), Rising a l → ∀ y ∈ l, y.t ≤ 1114111 := by
    intro l
    induction l with
    | nil => intro a _ y hy; simp at hy
    | cons x l ih =>
      intro a hr y hy
      obtain ⟨r1, r2, r3, r4⟩ := hr
      rcases List.mem_cons.1 hy with rfl | hy
      · exact r3
      · exact ih _ r4 y hy
  have h2 := this l a h x hx
  omega

theorem get_fst {z : Int} {l : List (SRow Int)} (h : Rising (-1) l) (r : Int) : getV z l r = fst' z l r := by
  rw [fst_at z l (-1) r h]
  unfold getV
  split
  · rename_i hr
    rw [at_range (by omega) h hr]
  · rfl

set_option maxHeartbeats 2000000 in
theorem rget_any {w : World} {v : Value} {l : List (SRow Int)} (h : RIn w v l) (hl : l.length ≤ 60) (other r : Int) :
    Calls Try.prog 11 #[v, .int .i64 other, .int .i64 r] w fun e w' => e = .returned (.int .i64 (fst' other l r)) ∧ w' = w := by
  obtain ⟨ao, cap, rfl, hc⟩ := h
  have HC := hid hc
  clear hc
  go_enter Try.func11, Try.ntmps11
  go_wp2
  go_loop [7] (fun i => ∃ k : Nat, k ≤ l.length ∧ i = .int .i64 k ∧ Hid (fst' other l r = fst' other (l.drop k) r)) (fun i => l.length - (intOf i).toNat)
  case atStart => exact ⟨0, Nat.zero_le _, rfl, rfl⟩
  case round =>
    obtain ⟨k, hk, rfl, H⟩ := hrel
    by_cases hlt : k < l.length
    · obtain ⟨gb, rfl, hgb, d0, d1, d2⟩ := HC.out k hlt
      have H2 : Hid (fst' other l r = if l[k].f ≤ r ∧ r ≤ l[k].t then l[k].v else fst' other (l.drop (k + 1)) r) := by
        show _ = _
        rw [H.out, List.drop_eq_getElem_cons hlt]; rfl
      clear H HC
      generalize l[k] = x at *
      obtain ⟨xf, xt, xv⟩ := x
      simp only at d0 d1 d2 H2
      by_cases c1 : xf ≤ r
      · by_cases c2 : r ≤ xt
        · have H3 : Hid (fst' other l r = xv) := by show _ = _; rw [H2.out, if_pos ⟨c1, c2⟩]
          clear H2
          go_wp2
          go_ret
          exact ⟨ret_int H3.out.symm, rfl⟩
        · have H3 : Hid (fst' other l r = fst' other (l.drop (k + 1)) r) := by show _ = _; rw [H2.out, if_neg (fun h => c2 h.2)]
          clear H2
          go_wp2
          go_round
          case rel => exact ⟨k + 1, by omega, by go_num, H3⟩
          case measure => simp [intOf]; omega
      · have H3 : Hid (fst' other l r = fst' other (l.drop (k + 1)) r) := by show _ = _; rw [H2.out, if_neg (fun h => c1 h.1)]
        clear H2
        go_wp2
        go_round
        case rel => exact ⟨k + 1, by omega, by go_num, H3⟩
        case measure => simp [intOf]; omega
    · have e : k = l.length := by omega
      subst e
      have H3 : Hid (fst' other l r = other) := by show _ = _; rw [H.out, List.drop_length]; rfl
      clear H HC
      go_wp2
      go_ret
      exact ⟨ret_int H3.out.symm, rfl⟩
end Go.Proofs.Ytpfnljebofgifab
