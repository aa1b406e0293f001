import Derived.Test.YtoknfhjclpdihaaPu25
namespace Go.Proofs.Ytoknfhjclpdihaa
namespace Pu
open Go.RowKit Od

theorem bsI_get (s : ByteArray) (k : Nat) (h : k < s.size) : (bsI s)[k]'(by rw [bsI_len]; exact h) = ((s[k].toNat : Nat) : Int) := by
  have := congrArg List.head? (bsI_drop s k h)
  rw [List.head?_drop, List.getElem?_eq_getElem (by rw [bsI_len]; exact h)] at this
  simpa using this
theorem hy_of {s : ByteArray} {i : Int} (h1 : -1 ≤ i) (h2 : i < s.size) (h3 : ∀ k : Nat, (h : k < s.size) → i < k → (s[k].toNat : Int) ≠ 45) (h4 : ∀ k : Nat, i = k → (h : k < s.size) → (s[k].toNat : Int) = 45) : Hy (bsI s) i := by
  refine ⟨h1, by rw [bsI_len]; exact h2, fun k h hk => ?_, fun k hk h => ?_⟩
  · rw [bsI_len] at h
    rw [bsI_get s k h]
    exact h3 k h hk
  · rw [bsI_len] at h
    rw [bsI_get s k h]
    exact h4 k hk h
theorem ec_at : ∀ (l : List Ent) (k : Nat) (h : k < l.length), (l.flatMap ec)[k * 2]? = some (.int .i32 l[k].1) ∧ (l.flatMap ec)[k * 2 + 1]? = some (.int .i64 l[k].2)
  | [], _, h => by simp at h
  | x :: l, 0, _ => by simp [ec]
  | x :: l, k + 1, h => by
    have ih := ec_at l k (by simpa using h)
    have e : (x :: l).flatMap ec = .int .i32 x.1 :: .int .i64 x.2 :: l.flatMap ec := by simp [ec]
    rw [e]
    have e1 : (k + 1) * 2 = k * 2 + 1 + 1 := by omega
    rw [e1]
    simp only [List.getElem?_cons_succ, List.getElem_cons_succ]
    exact ih
theorem ent_of_own {w : World} {B : Nat} {v : Value} {es : List Ent} (h : w.ownsRow B 68 2 v es.length (es.flatMap ec)) : ∃ ao cap, v = .slice ao es.length cap ∧ ∀ i (h : i < es.length), ∃ g, ao = some ⟨g, 0, none⟩ ∧ w.cell? ⟨g, i * 2, none⟩ = some (.int .i32 es[i].1) ∧ w.cell? ⟨g, i * 2 + 1, none⟩ = some (.int .i64 es[i].2) := by
  rcases h.2 with ⟨h1, h2⟩ | ⟨g, cap, cur, rfl, h2, h3, h4, h5, h6, h7⟩
  · exact ⟨none, 0, by rw [h2]; exact h1, fun i hi => by omega⟩
  · refine ⟨_, cap, rfl, fun i hi => ⟨g, rfl, ?_, ?_⟩⟩
    · exact (h.cellAt (i * 2) (by omega)).trans (ec_at es i hi).1
    · exact (h.cellAt (i * 2 + 1) (by omega)).trans (ec_at es i hi).2
theorem rdD_err (bi : Int) : ∀ (l : List Int) (pl c k e : Int), rdD bi l pl c k = .inl e → e = 9 ∨ e = 11
  | [], _, _, _, e, h => by simp [rdD] at h; omega
  | b :: l, pl, c, k, e, h => by
    simp only [rdD] at h
    split at h
    · injection h with h; omega
    · split at h
      · injection h with h; omega
      · split at h
        · cases h
        · split at h
          · injection h with h; omega
          · exact rdD_err bi l _ _ _ e h
theorem rdS_err : ∀ (f : Nat) (s : DS) (l : List Int) (e : Int), rdS f s l = .inl e → e = 9 ∨ e = 11 ∨ e = 7
  | 0, s, l, e, h => by simp [rdS] at h
  | f + 1, s, [], e, h => by simp [rdS] at h
  | f + 1, s, b :: l, e, h => by
    rw [rdS_step f s _ (by simp)] at h
    revert h
    cases hD : rdD s.bias (b :: l) s.place 1 36 with
    | inl x =>
      intro h
      injection h with h
      subst h
      rcases rdD_err _ _ _ _ _ _ hD with h | h <;> omega
    | inr p =>
      obtain ⟨p2, rest⟩ := p
      simp only
      intro h
      split at h
      · injection h with h; omega
      · split at h
        · injection h with h; omega
        · exact rdS_err f _ rest e h
/-- What stands ahead of the hyphen is below 128. -/
theorem dec_bad {L : List Int} {i : Int} {k : Nat} (hk : k < (L.take i.toNat).length) (h : 128 ≤ (L.take i.toNat)[k]) : decP L i = .inl 9 := by
  unfold decP
  rw [if_pos]
  exact List.any_eq_true.2 ⟨_, List.getElem_mem hk, by simpa using h⟩
theorem dec_good {L : List Int} {i : Int} (h : ∀ k (hk : k < (L.take i.toNat).length), (L.take i.toNat)[k] < 128) : decP L i = match rdS (L.drop (i + 1).toNat).length ⟨128, 0, 72, (L.take i.toNat).length, []⟩ (L.drop (i + 1).toNat) with
    | .inl e => .inl e
    | .inr es => .inr (putL (L.take i.toNat) es) := by
  have hn : ¬ (L.take i.toNat).any (fun b => decide (128 ≤ b)) = true := by
    intro hh
    obtain ⟨x, hx, hx2⟩ := List.any_eq_true.1 hh
    obtain ⟨k, hk, rfl⟩ := List.mem_iff_getElem.1 hx
    have := h k hk
    have := of_decide_eq_true hx2
    omega
  unfold decP
  exact if_neg hn
set_option maxRecDepth 100000 in
set_option maxHeartbeats 4000000 in
theorem dec_any (s : ByteArray) (hs : s.size ≤ 1000) (w : World) (hb : ∀ (i : Int) (es : List Ent), Hy (bsI s) i → rdS ((bsI s).drop (i + 1).toNat).length ⟨128, 0, 72, ((bsI s).take i.toNat).length, []⟩ ((bsI s).drop (i + 1).toNat) = .inr es → ((bsI s).take i.toNat).length + es.length ≤ 120) :
    Calls Try.prog 11 #[.string s] w fun e w' => (∃ i, Hy (bsI s) i ∧ decV (decP (bsI s) i) e w w') ∧ Below w.heap.size w w' := by
  have HB := hid hb
  clear hb
  have HL := hid (lastb_any s hs w)
  go_enter Try.func11, Try.ntmps11
  go_wp2_with fail
  refine HL.out.mono ?_
  rintro e w1 ⟨⟨i, rfl, h1, h2, h3, h4⟩, rfl⟩
  have HY := hid (hy_of h1 h2 h3 h4)
  clear HL h3 h4
  by_cases hi : i = -1
  · subst hi
    have hmx : max (-1 : Int) 0 = 0 := by decide
    have HLw : Hid (bsI ByteArray.empty = (bsI s).take (-1 : Int).toNat) := rfl
    have HRs : Hid (bsI s = (bsI s).drop ((-1 : Int) + 1).toNat) := rfl
    have HN : Hid (decP (bsI s) (-1) = match rdS s.size ⟨128, 0, 72, 0, []⟩ (bsI s) with
        | .inl e => .inl e
        | .inr es => .inr (putL (bsI ByteArray.empty) es)) := by
      have hg := dec_good (L := bsI s) (i := (-1 : Int)) fun k hk => by simp at hk
      rw [← HLw.out, ← HRs.out, bsI_len, bsI_len] at hg
      exact hg
    go_wp2_with fail
    go_loop [17] (fun vi => vi = .int .i64 0) (fun _ => 0)
    case atStart => rfl
    case round =>
      subst hrel
      have HRd : Hid (Calls Try.prog 30 #[.string s, .int .i64 0] w1 fun e w' => rdV (rdS s.size ⟨128, 0, 72, 0, []⟩ (bsI s)) e w1 w' ∧ Below w1.heap.size w1 w') := read_any s hs 0 (by omega) w1
      go_wp2_with fail
      refine HRd.out.mono ?_
      rintro e w2 ⟨hv, hb2⟩
      cases hr : rdS s.size ⟨128, 0, 72, 0, []⟩ (bsI s) with
      | inl x =>
        rw [hr] at hv
        have HN2 : Hid (decP (bsI s) (-1) = .inl x) := by
          show _ = _
          rw [HN.out, hr]
        have he := rdS_err _ _ _ _ hr
        have hv' : e = .returned (.tuple #[.slice none 0 0, .int .i64 x]) := hv
        subst hv'
        have HB2 := hid hb2
        clear hv hr hb2 HN HRd
        rcases he with rfl | rfl | rfl
        all_goals
          go_wp2_with fail
          go_ret2
          refine ⟨⟨_, HY.out, ?_⟩, HB2.out⟩
          rw [HN2.out]
          rfl
      | inr es =>
        rw [hr] at hv
        obtain ⟨v, rfl, hown⟩ := hv
        obtain ⟨ao, cap, rfl, hrow⟩ := ent_of_own hown
        have HN2 : Hid (decP (bsI s) (-1) = .inr (putL (bsI ByteArray.empty) es)) := by
          show _ = _
          rw [HN.out, hr]
        have hbd : 0 + es.length ≤ 120 := by
          have := HB.out _ es HY.out (by rw [← HLw.out, ← HRs.out, bsI_len, bsI_len]; exact hr)
          rw [← HLw.out, bsI_len] at this
          exact this
        have HPut := hid (putin_any ByteArray.empty es hbd (rdS_ok 0 _ _ _ es (fun k hk => by simp at hk) rfl (by simp) (by simp) (by simp) hr).1 ao cap w2 hrow)
        have HB2 := hid hb2
        clear hr hown hrow hb2 HN HRd
        go_wp2_with fail
        refine HPut.out.mono ?_
        rintro e w3 ⟨g, rfl, hg, hro, hb3⟩
        have H3 := hid (And.intro hg (And.intro hro hb3))
        clear hg hro hb3 HPut
        go_wp2_with fail
        go_ret2
        refine ⟨⟨_, HY.out, ?_⟩, HB2.out.trans (H3.out.2.2.mono HB2.out.size)⟩
        rw [HN2.out]
        refine ⟨g, ?_, Nat.le_trans HB2.out.size H3.out.1, H3.out.2.1⟩
        rw [putL_len, bsI_len, show ByteArray.empty.size + es.length = es.length from Nat.zero_add _]; rfl
  · obtain ⟨n, rfl⟩ : ∃ n : Nat, i = n := ⟨i.toNat, by omega⟩
    have hnz : (n : Int) ≤ (s.size : Int) := by omega
    have hn0 : ¬ (n : Int) < 0 := by omega
    have hmx : max (n : Int) 0 = (n : Int) := by omega
    go_wp2_with fail
    have HLw0 : bsI (s.extract 0 n) = (bsI s).take (n : Int).toNat := bsI_take s n
    have HRs0 : bsI (s.extract (n + 1) s.size) = (bsI s).drop ((n : Int) + 1).toNat := bsI_dropE s (n + 1)
    have hms : min n s.size = (s.extract 0 n).size := by simp
    rw [hms]
    clear hms
    generalize s.extract 0 n = lw at *
    obtain ⟨rs, hrs⟩ : ∃ rs, s.extract (n + 1) s.size = rs := ⟨_, rfl⟩
    rw [hrs] at HRs0
    have HLw : Hid (bsI lw = (bsI s).take (n : Int).toNat) := HLw0
    have HRs : Hid (bsI rs = (bsI s).drop ((n : Int) + 1).toNat) := HRs0
    have hlz : lw.size ≤ 1000 := by have := bsI_len lw; rw [HLw.out, List.length_take, bsI_len] at this; omega
    have hrz : rs.size ≤ 1000 := by have := bsI_len rs; rw [HRs.out, List.length_drop, bsI_len] at this; omega
    clear HLw0 HRs0
    go_loop [17] (fun vi => ∃ k : Nat, k ≤ lw.size ∧ vi = .int .i64 k ∧ Hid (∀ j (hj : j < lw.size), j < k → (lw[j].toNat : Int) < 128)) (fun v => lw.size - (intOf v).toNat)
    case atStart => exact ⟨0, Nat.zero_le _, rfl, fun j hj h => by omega⟩
    case round =>
      obtain ⟨k, hk, rfl, H⟩ := hrel
      by_cases hlt : k < lw.size
      · have hltz : (k : Int) < (lw.size : Int) := by omega
        have hx1 : (lw[k].toNat : Int) < 256 := by have := lw[k].toNat_lt; omega
        by_cases hbad : (lw[k].toNat : Int) < 128
        · have HN : Hid (∀ j (hj : j < lw.size), j < k + 1 → (lw[j].toNat : Int) < 128) := fun j hj h => by
            by_cases e : j = k
            · subst e; exact hbad
            · exact H.out j hj (by omega)
          go_wp2_with fail
          go_round
          case rel => exact ⟨k + 1, hlt, by go_num, HN⟩
          case measure => (simp [intOf]) <;> omega
        · have HN : Hid (decP (bsI s) (n) = .inl 9) := by
            have e : ∀ (M : List Int) (hM : bsI lw = M), ∃ hq : k < M.length, M[k] = (lw[k].toNat : Int) := fun M hM => by subst hM; exact ⟨by rw [bsI_len]; exact hlt, bsI_get lw k hlt⟩
            obtain ⟨hq, hq2⟩ := e _ HLw.out
            exact dec_bad hq (by rw [hq2]; omega)
          go_wp2_with fail
          go_ret2
          refine ⟨⟨_, HY.out, ?_⟩, Below.refl _ _⟩
          rw [HN.out]
          rfl
      · have hke : k = lw.size := by omega
        subst hke
        have HN : Hid (decP (bsI s) (n) = match rdS rs.size ⟨128, 0, 72, lw.size, []⟩ (bsI rs) with
            | .inl e => .inl e
            | .inr es => .inr (putL (bsI lw) es)) := by
          have hg := dec_good (L := bsI s) (i := (n : Int)) fun k hk => by
            have e : ∀ (M : List Int) (hM : bsI lw = M) (hq : k < M.length), M[k] < 128 := fun M hM hq => by
              subst hM
              rw [bsI_len] at hq
              rw [bsI_get lw k hq]
              exact H.out k hq hq
            exact e _ HLw.out hk
          rw [← HLw.out, ← HRs.out, bsI_len, bsI_len] at hg
          exact hg
        clear hk hlt
        have HRd := hid (read_any rs hrz lw.size hlz w1)
        have hnz1 : (n : Int) + 1 ≤ (s.size : Int) := by omega
        go_wp2_with fail
        refine HRd.out.mono ?_
        rintro e w2 ⟨hv, hb2⟩
        cases hr : rdS rs.size ⟨128, 0, 72, lw.size, []⟩ (bsI rs) with
        | inl x =>
          rw [hr] at hv
          have HN2 : Hid (decP (bsI s) (n) = .inl x) := by
            show _ = _
            rw [HN.out, hr]
          have he := rdS_err _ _ _ _ hr
          have hv' : e = .returned (.tuple #[.slice none 0 0, .int .i64 x]) := hv
          subst hv'
          have HB2 := hid hb2
          clear hv hr hb2 HN HRd
          rcases he with rfl | rfl | rfl
          all_goals
            go_wp2_with fail
            go_ret2
            refine ⟨⟨_, HY.out, ?_⟩, HB2.out⟩
            rw [HN2.out]
            rfl
        | inr es =>
          rw [hr] at hv
          obtain ⟨v, rfl, hown⟩ := hv
          obtain ⟨ao, cap, rfl, hrow⟩ := ent_of_own hown
          have HN2 : Hid (decP (bsI s) (n) = .inr (putL (bsI lw) es)) := by
            show _ = _
            rw [HN.out, hr]
          have hbd : lw.size + es.length ≤ 120 := by
            have := HB.out _ es HY.out (by rw [← HLw.out, ← HRs.out, bsI_len, bsI_len]; exact hr)
            rw [← HLw.out, bsI_len] at this
            exact this
          have HPut := hid (putin_any lw es hbd (rdS_ok lw.size _ _ _ es (fun k hk => by simp at hk) rfl (by simp) (by simp) (by simp) hr).1 ao cap w2 hrow)
          have HB2 := hid hb2
          clear hr hown hrow hb2 HN HRd
          go_wp2_with fail
          refine HPut.out.mono ?_
          rintro e w3 ⟨g, rfl, hg, hro, hb3⟩
          have H3 := hid (And.intro hg (And.intro hro hb3))
          clear hg hro hb3 HPut
          go_wp2_with fail
          go_ret2
          refine ⟨⟨_, HY.out, ?_⟩, HB2.out.trans (H3.out.2.2.mono HB2.out.size)⟩
          rw [HN2.out]
          refine ⟨g, ?_, Nat.le_trans HB2.out.size H3.out.1, H3.out.2.1⟩
          rw [putL_len, bsI_len]; rfl
end Pu
end Go.Proofs.Ytoknfhjclpdihaa
