import Derived.Test.YteimhepmcjdbpaaGreatDoorIp23
import Derived.Test.YteimhepmcjdbpaaGreatDoorLex4
namespace Go.Proofs.YteimhepmcjdbpaaGreatDoor
open Go.RowKit
namespace Ip

theorem ma_br (iri : Bool) : Le.maB 2 iri 91 = false := by cases iri <;> decide
theorem st_br (iri : Bool) (t : List UInt8) : Le.stN 2 iri (91 :: t) = 0 := by
  have h1 : atL (91 :: t) = -1 := by
    match t with
    | [] => rfl
    | [_] => rfl
    | b :: c :: r =>
      have e : atL (91 :: b :: c :: r) = if (91 : UInt8).toNat = 37 ∧ 0 ≤ valR b.toNat ∧ 0 ≤ valR c.toNat then 16 * valR b.toNat + valR c.toNat else -1 := rfl
      rw [e, if_neg]
      rintro ⟨h, _⟩
      exact absurd h (by decide)
  unfold Le.stN
  rw [if_neg (by omega), if_neg]
  rintro ⟨h2, h3⟩
  have h4 : decR (91 :: t) = 91 := by
    unfold decR
    rw [if_pos h2]
    unfold valL
    rw [show bt (91 :: t) 0 = 91 from rfl, if_pos (by decide)]
  rw [h4, show ((91 : Nat) : Int) = 91 from rfl, ma_br] at h3
  cases h3
theorem sp_br (iri : Bool) (t : List UInt8) : Le.spL 2 iri (91 :: t) = 0 := by
  unfold Le.spL
  split
  · exact Le.spF_end 2 iri _ _ 0 (by rw [List.drop_zero]; exact st_br iri t)
  · rfl
theorem v4_br (t : List UInt8) : (v4L (91 :: t)).2 = false := by
  have hp : ∃ p ps, paL 46 (91 :: t) = (91 :: p) :: ps := by
    rw [paL, if_neg (by decide)]
    exact ⟨_, _, rfl⟩
  obtain ⟨p, ps, e⟩ := hp
  have hn : nuL (91 :: p) = -1 := by
    unfold nuL
    rw [if_neg]
    rintro ⟨_, _, h, _⟩
    rw [List.all_cons, show dgt 91 = false by decide] at h
    cases h
  unfold v4L
  rw [e, List.map_cons, hn, v4R_neg _ (-1) (by decide) List.mem_cons_self]
theorem ho_in (iri : Bool) (m : List UInt8) : hoI iri (91 :: (m ++ [93])) = if (v6L m).2 = true then 3 else if fuB m = true then 3 else 0 := by
  have hl : liB (91 :: (m ++ [93])) = ((v6L m).2 || fuB m) := by
    have e1 : preB 91 (91 :: (m ++ [93])) = (m ++ [93], true) := by unfold preB; simp
    have e2 : sufB 93 (m ++ [93]) = (m, true) := by unfold sufB; simp
    unfold liB
    rw [e1, e2]; rfl
  unfold hoI
  rw [hl, v4_br, sp_br]
  cases (v6L m).2
  · cases fuB m
    · simp
    · simp
  · simp
theorem ho_out (iri : Bool) (l : List UInt8) (h : ¬ ∃ m, l = 91 :: (m ++ [93])) : hoI iri l = if (v4L l).2 = true then 1 else if Le.spL 2 iri l = l.length then 2 else 0 := by
  have hl : liB l = false := by
    cases h1 : liB l with
    | false => rfl
    | true =>
      exfalso
      apply h
      unfold liB at h1
      simp only [Bool.and_eq_true] at h1
      obtain ⟨⟨h2, h3⟩, _⟩ := h1
      cases l with
      | nil => cases h2
      | cons a t =>
        have ha : a = 91 := by
          unfold preB at h2
          by_cases e : a = 91
          · exact e
          · simp [e] at h2
        subst ha
        have e1 : preB 91 (91 :: t) = (t, true) := by unfold preB; simp
        rw [e1] at h3
        unfold sufB at h3
        by_cases e : t.getLast? = some 93
        · obtain ⟨ys, hy⟩ := List.getLast?_eq_some_iff.1 e
          exact ⟨ys, by rw [hy]⟩
        · simp [e] at h3
  unfold hoI
  rw [hl]; simp

set_option maxRecDepth 100000 in
set_option maxHeartbeats 4000000 in
theorem rhost_any (iri : Bool) (s : ByteArray) (w : World) (hs : s.size ≤ 1000) :
    Calls Tryz.prog 14 #[.bool iri, .string s] w fun e w' => e = .returned (.int .i64 (hoI iri s.data.toList)) ∧ Below w.heap.size w w' := by
  have hok := Ok.start w
  by_cases hb : ∃ m, s.data.toList = 91 :: (m ++ [93])
  · obtain ⟨m, hm⟩ := hb
    obtain ⟨q, hq⟩ : ∃ q, q = m.length + 1 := ⟨_, rfl⟩
    have hl : s.size = q + 1 := by rw [← len_size, hm, hq]; simp
    have z0 : 0 < s.size := by omega
    have hmz : q < s.size := by omega
    have h0 : s[0]'z0 = 91 := by
      have h := dropS s 0 z0
      rw [List.drop_zero, hm] at h
      injection h with e _
      exact e.symm
    have h1 : s[q]'hmz = 93 := by
      have h : s.data.toList[q]? = some 93 := by rw [hm, hq, List.getElem?_cons_succ, List.getElem?_append_right (Nat.le_refl _)]; simp
      obtain ⟨_, hx⟩ := List.getElem?_eq_some_iff.1 h
      exact hx
    have hx : (s.extract 1 (q)).data.toList = m := by
      rw [ext_list, hm, hq]; simp
    have hxz : (s.extract 1 (q)).size ≤ 1000 := by rw [← len_size, hx]; omega
    have H6 := hid (fun W => rv6_any (s.extract 1 (q)) W hxz)
    have HF := hid (fun W => rfut_any (s.extract 1 (q)) W hxz)
    rw [hx] at H6 HF
    have HR : Hid (hoI iri s.data.toList = if (v6L m).2 = true then 3 else if fuB m = true then 3 else 0) := by
      show _ = _; rw [hm]; exact ho_in iri m
    obtain ⟨x0, x1, x2, x3, x4, x5, x6, x7, k, e6⟩ := v6L_eight m
    rw [rv6_is, e6] at H6
    have e8 : (i64v [x0, x1, x2, x3, x4, x5, x6, x7]).toArray = #[.int .i64 x0, .int .i64 x1, .int .i64 x2, .int .i64 x3, .int .i64 x4, .int .i64 x5, .int .i64 x6, .int .i64 x7] := rfl
    rw [show (([x0, x1, x2, x3, x4, x5, x6, x7], k) : List Int × Bool).1 = [x0, x1, x2, x3, x4, x5, x6, x7] from rfl, e8, show (([x0, x1, x2, x3, x4, x5, x6, x7], k) : List Int × Bool).2 = k from rfl] at H6
    rw [e6, show (([x0, x1, x2, x3, x4, x5, x6, x7], k) : List Int × Bool).2 = k from rfl] at HR
    have hn1 : (2 : Int) ≤ (s.size : Int) := by omega
    have hn2 : (s.size : Int) - 1 = ((q : Nat) : Int) := by omega
    have hc0 : ((s[0].toNat : Int) == 91) = true := by rw [h0]; rfl
    have hc1 : ((s[q].toNat : Int) == 93) = true := by rw [h1]; rfl
    clear e6 e8 h0 h1 hx hxz hm
    generalize hoI iri s.data.toList = R at *
    generalize fuB m = f at *
    clear hl hq
    have HO := hid hok
    clear hok
    go_enter Tryz.func14, Tryz.ntmps14
    go_wp2_with fail
    refine (H6.out _).mono ?_
    rintro e w2 ⟨rfl, hb⟩
    have HO2 := hid ((HO.out.step hb).alloc (o := .cells #[.int .i64 x0, .int .i64 x1, .int .i64 x2, .int .i64 x3, .int .i64 x4, .int .i64 x5, .int .i64 x6, .int .i64 x7] 33))
    clear hb
    cases k
    · go_wp2_with fail
      refine (HF.out _).mono ?_
      rintro e w3 ⟨rfl, rfl⟩
      cases f
      · go_wp2_with fail
        go_ret
        exact ⟨ret_int HR.out.symm, HO2.out.1⟩
      · go_wp2_with fail
        go_ret
        exact ⟨ret_int HR.out.symm, HO2.out.1⟩
    · go_wp2_with fail
      go_ret
      exact ⟨ret_int HR.out.symm, HO2.out.1⟩
  · have HR0 := ho_out iri s.data.toList hb
    have H4 := hid (fun W => rv4_any s W hs)
    have HS := hid (fun W => Le.rsp_any 2 iri s W (by unfold maxLen; omega))
    obtain ⟨a, b, c, d, k, e4, _⟩ := v4L_bd s.data.toList
    rw [e4, show (([a, b, c, d], k) : List Int × Bool).2 = k from rfl, len_size] at HR0
    have e8 : (i64v [a, b, c, d]).toArray = #[.int .i64 a, .int .i64 b, .int .i64 c, .int .i64 d] := rfl
    rw [e4, show (([a, b, c, d], k) : List Int × Bool).1 = [a, b, c, d] from rfl, e8, show (([a, b, c, d], k) : List Int × Bool).2 = k from rfl] at H4
    have HR := hid HR0
    clear HR0 e4 e8
    -- which guard fails
    have hg : s.size < 2 ∨ (2 ≤ s.size ∧ ∃ h : 0 < s.size, ¬ s[0] = 91) ∨ (2 ≤ s.size ∧ ∃ h : 0 < s.size, ∃ q, ∃ h2 : q < s.size, s[0] = 91 ∧ s.size = q + 1 ∧ ¬ s[q] = 93) := by
      by_cases h1 : s.size < 2
      · exact .inl h1
      · by_cases h2 : s[0]'(by omega) = 91
        · have z0 : 0 < s.size := by omega
          have zq : s.size - 1 < s.size := by omega
          refine .inr (.inr ⟨by omega, z0, s.size - 1, zq, h2, by omega, fun h3 => hb ?_⟩)
          have hd := dropS s 0 z0
          rw [List.drop_zero, h2] at hd
          have hne : s.data.toList.drop 1 ≠ [] := by
            intro e; have := congrArg List.length e; rw [List.length_drop, len_size, List.length_nil] at this; omega
          refine ⟨(s.data.toList.drop 1).dropLast, ?_⟩
          have hlast : (s.data.toList.drop 1).getLast hne = 93 := by
            rw [List.getLast_eq_getElem, List.getElem_drop]
            have e : 1 + ((s.data.toList.drop 1).length - 1) = s.size - 1 := by rw [List.length_drop, len_size]; omega
            simp only [e]
            exact h3
          have e2 := List.dropLast_concat_getLast hne
          rw [hlast] at e2
          rw [e2]; exact hd
        · exact .inr (.inl ⟨by omega, by omega, h2⟩)
    clear hb
    have H7 : Hid (∀ W : World, Below w.heap.size w W → True) := fun _ _ => trivial
    have HO := hid hok
    clear hok H7
    generalize hoI iri s.data.toList = R at *
    generalize Le.spL 2 iri s.data.toList = n at *
    have hgs : (¬ (2 : Int) ≤ (s.size : Int)) ∨ ((2 : Int) ≤ (s.size : Int) ∧ ∃ h : 0 < s.size, ((s[0].toNat : Int) == 91) = false) ∨ ((2 : Int) ≤ (s.size : Int) ∧ ∃ h : 0 < s.size, ∃ q, ∃ h2 : q < s.size, ((s[0].toNat : Int) == 91) = true ∧ (s.size : Int) - 1 = (q : Int) ∧ ((s[q].toNat : Int) == 93) = false) := by
      rcases hg with h | ⟨h1, h2, h3⟩ | ⟨h1, h2, q, h4, h5, h6, h7⟩
      · exact .inl (by omega)
      · refine .inr (.inl ⟨by omega, h2, ?_⟩)
        rw [beq_eq_false_iff_ne]; intro e; exact h3 (UInt8.toNat_inj.1 (by simpa using Int.ofNat_inj.1 e))
      · refine .inr (.inr ⟨by omega, h2, q, h4, by rw [h5]; rfl, by omega, ?_⟩)
        rw [beq_eq_false_iff_ne]; intro e; exact h7 (UInt8.toNat_inj.1 (by simpa using Int.ofNat_inj.1 e))
    clear hg
    rcases hgs with hn1 | ⟨hn1, hz0, hc0⟩ | ⟨hn1, hz0, q, hzq, hc0, hn2, hc1⟩
    all_goals
      go_enter Tryz.func14, Tryz.ntmps14
      go_wp2_with fail
      refine (H4.out _).mono ?_
      rintro e w2 ⟨rfl, hb⟩
      have HO2 := hid ((HO.out.step hb).alloc (o := .cells #[.int .i64 a, .int .i64 b, .int .i64 c, .int .i64 d] 30))
      clear hb
      cases k
      · go_wp2_with fail
        refine (HS.out _).mono ?_
        rintro e w3 ⟨rfl, hb⟩
        have HO3 := hid (HO2.out.step hb)
        clear hb
        by_cases hnn : n = s.size
        · have HR2 : Hid (R = 2) := by show _ = _; rw [HR.out, if_neg (by decide), if_pos hnn]
          have hq : ((n : Int) == (s.size : Int)) = true := by rw [hnn]; simp
          clear hnn
          go_wp2_with fail
          go_ret
          exact ⟨ret_int HR2.out.symm, HO3.out.1⟩
        · have HR2 : Hid (R = 0) := by show _ = _; rw [HR.out, if_neg (by decide), if_neg hnn]
          have hq : ((n : Int) == (s.size : Int)) = false := by rw [beq_eq_false_iff_ne]; omega
          clear hnn
          go_wp2_with fail
          go_ret
          exact ⟨ret_int HR2.out.symm, HO3.out.1⟩
      · go_wp2_with fail
        go_ret
        exact ⟨ret_int HR.out.symm, HO2.out.1⟩
end Ip
end Go.Proofs.YteimhepmcjdbpaaGreatDoor
