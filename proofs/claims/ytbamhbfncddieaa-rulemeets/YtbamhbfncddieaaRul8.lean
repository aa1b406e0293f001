import Derived.Test.YtbamhbfncddieaaRul7
namespace Go.Proofs.Ytbamhbfncddieaa
namespace Ru
open Go.RowKit Od

theorem hd_next (X : List Int) (i : Nat) (c : Int) (hc : 0 ≤ c) : hdB (fun x => decide (scP x ∈ [c])) (X.drop (i + 1)) = (rsI X ((i : Int) + 1) == c) := by
  unfold rsI
  by_cases h : i + 1 < X.length
  · rw [if_pos (by omega), List.drop_eq_getElem_cons h, hdB_cons, show ((i : Int) + 1).toNat = i + 1 by omega, List.getD_eq_getElem?_getD, List.getElem?_eq_getElem h, Bool.eq_iff_iff]
    simp
  · rw [if_neg (by omega), List.drop_eq_nil_of_le (by omega), hdB_nil]
    symm
    rw [beq_eq_false_iff_ne]; omega
theorem hd_prev (X : List Int) (i : Nat) (hi : i < X.length) (c : Int) (hc : 0 ≤ c) : hdB (fun x => decide (scP x ∈ [c])) (X.take i).reverse = (rsI X ((i : Int) - 1) == c) := by
  unfold rsI
  cases i with
  | zero =>
    rw [if_neg (by omega)]
    symm
    show _ = false
    rw [beq_eq_false_iff_ne]; omega
  | succ m =>
    have hm : m < X.length := by omega
    rw [if_pos (by omega), take_rev X m hm, hdB_cons, show (((m + 1 : Nat) : Int) - 1).toNat = m by omega, List.getD_eq_getElem?_getD, List.getElem?_eq_getElem hm, Bool.eq_iff_iff]
    simp
theorem any_kana (X : List Int) : (X.any fun x => decide (scP x ∈ [8, 9, 10])) = X.any fun x => decide (8 ≤ scP x) := by
  congr 1
  funext x
  exact sc_kana x
theorem jo_ref (X : List Int) (i : Nat) : joB X i = ((jnF (X.take i).reverse == 2) && (jnF (X.drop (i + 1)) == 2 || jnF (X.drop (i + 1)) == 3)) := by
  unfold joB
  rw [jnF_two, jnF_three]
set_option maxRecDepth 100000 in
set_option maxHeartbeats 8000000 in
theorem rmet_any {w : World} {v : Value} {X : List Int} (h : Sl .i64 w v X) (hn : X.length ≤ 1000000) (i : Nat) (hx : i < X.length) :
    Calls Try.prog 22 #[v, .int .i64 i] w fun e w' => e = .returned (.bool (metR X[i] X i)) ∧ Below w.heap.size w w' := by
  have HUp := hr (fun (W : World) (hb : Below w.heap.size w W) => rjup_any (h.step hb) hn i hx)
  have HDn := hr (fun (W : World) (hb : Below w.heap.size w W) => rjdn_any (h.step hb) hn i hx)
  have HVi := hr (fun (W : World) (hb : Below w.heap.size w W) => rvir_any (h.step hb) hn i hx)
  have HSc := hr (fun (k : Int) (W : World) (hb : Below w.heap.size w W) => rsc_any (h.step hb) k)
  have HWn := hr (fun (lo hg : Int) => rwithin_any h hn lo hg)
  obtain ⟨ao, cap, rfl, h⟩ := h
  have HS := hr h
  obtain ⟨b, off, hao, hb, c1⟩ := h.at_ i hx
  subst hao
  have HM : Hid (metR X[i] X i = if X[i] = 8204 then hdB (fun x => clsP x == 9) (X.take i).reverse || joB X i
    else if X[i] = 8205 then hdB (fun x => clsP x == 9) (X.take i).reverse
    else if X[i] = 183 then hdB (fun x => x == 108) (X.take i).reverse && hdB (fun x => x == 108) (X.drop (i + 1))
    else if X[i] = 885 then hdB (fun x => decide (scP x ∈ [2])) (X.drop (i + 1))
    else if X[i] = 1523 ∨ X[i] = 1524 then hdB (fun x => decide (scP x ∈ [4])) (X.take i).reverse
    else if X[i] = 12539 then X.any fun x => decide (scP x ∈ [8, 9, 10])
    else if arB X[i] = true then !X.any etB
    else if etB X[i] = true then !X.any arB
    else true) := rfl
  rw [any_kana, jo_ref, hd_next X i 2 (by omega), hd_prev X i hx 4 (by omega)] at HM
  have HB := hr (Below.refl w.heap.size w)
  have HX := hr hx
  have z1 : (i : Int) < (X.length : Int) := by omega
  generalize X[i] = r at *
  generalize hlen : X.length = len at *
  have HLn := hr hlen
  clear hlen h hb
  by_cases h8204 : r = 8204
  · rw [if_pos h8204] at HM
    have p : (r == 8204) = true := beq_iff_eq.2 h8204
    clear h8204
    go_enter Try.func22, Try.ntmps22
    go_wp2_with fail
    refine (HUp.out _ HB.out).mono ?_
    rintro e w1 ⟨rfl, hb1⟩
    replace HB := hr (HB.out.trans (hb1.mono HB.out.size))
    clear hb1
    go_wp2_with fail
    refine (HVi.out _ HB.out).mono ?_
    rintro e w1 ⟨rfl, hb1⟩
    replace HB := hr (HB.out.trans (hb1.mono HB.out.size))
    clear hb1
    generalize hdB (fun x => clsP x == 9) (X.take i).reverse = q1 at *
    generalize jnF (X.drop (i + 1)) = jn at *
    cases q1
    · rw [Bool.false_or] at HM
      go_wp2_with fail
      refine (HDn.out _ HB.out).mono ?_
      rintro e w1 ⟨rfl, hb1⟩
      replace HB := hr (HB.out.trans (hb1.mono HB.out.size))
      clear hb1
      generalize jnF (X.take i).reverse = jp at *
      by_cases hp : jp = 2
      · subst hp
        by_cases h2 : jn = 2
        · subst h2
          replace HM : Hid (metR r X i = true) := HM.out
          go_wp2_with fail
          go_ret
          exact ⟨ret_bool HM.out.symm, HB.out⟩
        · have h2f : (jn == 2) = false := beq_eq_false_iff_ne.2 h2
          replace HM : Hid (metR r X i = (jn == 3)) := by show _ = _; rw [HM.out, h2f]; rfl
          go_wp2_with fail
          go_ret
          exact ⟨ret_bool HM.out.symm, HB.out⟩
      · have hpf : (jp == 2) = false := beq_eq_false_iff_ne.2 hp
        replace HM : Hid (metR r X i = false) := by show _ = _; rw [HM.out, hpf]; rfl
        go_wp2_with fail
        go_ret
        exact ⟨ret_bool HM.out.symm, HB.out⟩
    · rw [Bool.true_or] at HM
      go_wp2_with fail
      go_ret
      exact ⟨ret_bool HM.out.symm, HB.out⟩
  by_cases h8205 : r = 8205
  · rw [if_neg h8204, if_pos h8205] at HM
    have n8204 : (r == 8204) = false := beq_eq_false_iff_ne.2 (by omega)
    have p : (r == 8205) = true := beq_iff_eq.2 h8205
    clear h8204 h8205
    go_enter Try.func22, Try.ntmps22
    go_wp2_with fail
    refine (HVi.out _ HB.out).mono ?_
    rintro e w1 ⟨rfl, hb1⟩
    replace HB := hr (HB.out.trans (hb1.mono HB.out.size))
    clear hb1
    generalize hdB (fun x => clsP x == 9) (X.take i).reverse = q1 at *
    go_wp2_with fail
    go_ret
    exact ⟨ret_bool HM.out.symm, HB.out⟩
  by_cases h183 : r = 183
  · rw [if_neg h8204, if_neg h8205, if_pos h183] at HM
    have n8204 : (r == 8204) = false := beq_eq_false_iff_ne.2 (by omega)
    have n8205 : (r == 8205) = false := beq_eq_false_iff_ne.2 (by omega)
    have p : (r == 183) = true := beq_iff_eq.2 h183
    clear h8204 h8205 h183
    cases i with
    | zero =>
      replace HM : Hid (metR r X 0 = false) := by show _ = _; rw [HM.out]; rfl
      have e0 : ((0 : Nat) : Int) = 0 := rfl
      rw [e0] at z1 ⊢
      have c2 : w.cell? ⟨b, off, none⟩ = some (.int .i64 r) := c1
      clear e0 c1
      go_enter Try.func22, Try.ntmps22
      go_wp2_with fail
      go_ret
      exact ⟨ret_bool HM.out.symm, HB.out⟩
    | succ m =>
      have hm : m < X.length := by have := HX.out; have := HLn.out; omega
      rw [take_rev X m hm, hdB_cons] at HM
      obtain ⟨b2, off2, hao2, hb2, d1⟩ := HS.out.at_ m hm
      obtain ⟨rfl, rfl⟩ : b2 = b ∧ off2 = off := by have := Option.some.inj hao2; injection this with e1 e2; exact ⟨e1.symm, e2.symm⟩
      obtain ⟨I, hI⟩ : ∃ I : Nat, m + 1 = I := ⟨_, rfl⟩
      have z2 : (0 : Int) < (I : Int) := by omega
      have z3 : (I : Int) - 1 = (m : Int) := by omega
      have z4 : (m : Int) < (len : Int) := by have := HLn.out; omega
      generalize X[m] = y at *
      by_cases hl : I + 1 < len
      · have hl2 : I + 1 < X.length := by rw [HLn.out]; exact hl
        obtain ⟨b3, off3, hao3, hb3, d2⟩ := HS.out.at_ (I + 1) hl2
        obtain ⟨rfl, rfl⟩ : b3 = b2 ∧ off3 = off2 := by have := Option.some.inj hao3; injection this with e1 e2; exact ⟨e1.symm, e2.symm⟩
        rw [hI, List.drop_eq_getElem_cons hl2, hdB_cons] at HM
        rw [hI] at z1 c1 ⊢
        generalize X[I + 1] = u at *
        have z5 : (I : Int) < (len : Int) - 1 := by omega
        have z6 : (I : Int) + 1 < (len : Int) := by omega
        obtain ⟨J, hJ⟩ : ∃ J : Nat, I + 1 = J := ⟨_, rfl⟩
        have z7 : (I : Int) + 1 = (J : Int) := by omega
        have z8 : (J : Int) < (len : Int) := by omega
        rw [hJ] at d2
        have HJ := hr (And.intro hI hJ)
        clear hI hJ hl hl2 z6 hao2 hao3 HUp HDn HVi HSc HWn
        by_cases hy : y = 108
        · subst hy
          rw [show ((108 : Int) == 108) = true from rfl, Bool.true_and] at HM
          go_enter Try.func22, Try.ntmps22
          go_wp2_with fail
          go_ret
          exact ⟨ret_bool HM.out.symm, HB.out⟩
        · have hyf : (y == 108) = false := beq_eq_false_iff_ne.2 hy
          rw [hyf, Bool.false_and] at HM
          go_enter Try.func22, Try.ntmps22
          go_wp2_with fail
          go_ret
          exact ⟨ret_bool HM.out.symm, HB.out⟩
      · rw [hI, List.drop_eq_nil_of_le (by rw [HLn.out]; omega), hdB_nil, Bool.and_false] at HM
        rw [hI] at z1 c1 ⊢
        have z5 : ¬ (I : Int) < (len : Int) - 1 := by omega
        have HJ := hr hI
        clear hI hl hao2 HUp HDn HVi HSc HWn
        go_enter Try.func22, Try.ntmps22
        go_wp2_with fail
        go_ret
        exact ⟨ret_bool HM.out.symm, HB.out⟩
  by_cases h885 : r = 885
  · rw [if_neg h8204, if_neg h8205, if_neg h183, if_pos h885] at HM
    have n8204 : (r == 8204) = false := beq_eq_false_iff_ne.2 (by omega)
    have n8205 : (r == 8205) = false := beq_eq_false_iff_ne.2 (by omega)
    have n183 : (r == 183) = false := beq_eq_false_iff_ne.2 (by omega)
    have p : (r == 885) = true := beq_iff_eq.2 h885
    clear h8204 h8205 h183 h885
    go_enter Try.func22, Try.ntmps22
    go_wp2_with fail
    refine (HSc.out _ _ HB.out).mono ?_
    rintro e w1 ⟨rfl, hb1⟩
    replace HB := hr (HB.out.trans (hb1.mono HB.out.size))
    clear hb1
    generalize rsI X ((i : Int) + 1) = q1 at *
    go_wp2_with fail
    go_ret
    exact ⟨ret_bool HM.out.symm, HB.out⟩
  by_cases h1523 : r = 1523
  · rw [if_neg h8204, if_neg h8205, if_neg h183, if_neg h885, if_pos (.inl h1523)] at HM
    have n8204 : (r == 8204) = false := beq_eq_false_iff_ne.2 (by omega)
    have n8205 : (r == 8205) = false := beq_eq_false_iff_ne.2 (by omega)
    have n183 : (r == 183) = false := beq_eq_false_iff_ne.2 (by omega)
    have n885 : (r == 885) = false := beq_eq_false_iff_ne.2 (by omega)
    have p : (r == 1523) = true := beq_iff_eq.2 h1523
    clear h8204 h8205 h183 h885 h1523
    go_enter Try.func22, Try.ntmps22
    go_wp2_with fail
    refine (HSc.out _ _ HB.out).mono ?_
    rintro e w1 ⟨rfl, hb1⟩
    replace HB := hr (HB.out.trans (hb1.mono HB.out.size))
    clear hb1
    generalize rsI X ((i : Int) - 1) = q1 at *
    go_wp2_with fail
    go_ret
    exact ⟨ret_bool HM.out.symm, HB.out⟩
  by_cases h1524 : r = 1524
  · rw [if_neg h8204, if_neg h8205, if_neg h183, if_neg h885, if_pos (.inr h1524)] at HM
    have n8204 : (r == 8204) = false := beq_eq_false_iff_ne.2 (by omega)
    have n8205 : (r == 8205) = false := beq_eq_false_iff_ne.2 (by omega)
    have n183 : (r == 183) = false := beq_eq_false_iff_ne.2 (by omega)
    have n885 : (r == 885) = false := beq_eq_false_iff_ne.2 (by omega)
    have n1523 : (r == 1523) = false := beq_eq_false_iff_ne.2 (by omega)
    have p : (r == 1524) = true := beq_iff_eq.2 h1524
    clear h8204 h8205 h183 h885 h1523 h1524
    go_enter Try.func22, Try.ntmps22
    go_wp2_with fail
    refine (HSc.out _ _ HB.out).mono ?_
    rintro e w1 ⟨rfl, hb1⟩
    replace HB := hr (HB.out.trans (hb1.mono HB.out.size))
    clear hb1
    generalize rsI X ((i : Int) - 1) = q1 at *
    go_wp2_with fail
    go_ret
    exact ⟨ret_bool HM.out.symm, HB.out⟩
  by_cases h12539 : r = 12539
  · rw [if_neg h8204, if_neg h8205, if_neg h183, if_neg h885, if_neg (by omega), if_pos h12539] at HM
    have n8204 : (r == 8204) = false := beq_eq_false_iff_ne.2 (by omega)
    have n8205 : (r == 8205) = false := beq_eq_false_iff_ne.2 (by omega)
    have n183 : (r == 183) = false := beq_eq_false_iff_ne.2 (by omega)
    have n885 : (r == 885) = false := beq_eq_false_iff_ne.2 (by omega)
    have n1523 : (r == 1523) = false := beq_eq_false_iff_ne.2 (by omega)
    have n1524 : (r == 1524) = false := beq_eq_false_iff_ne.2 (by omega)
    have p : (r == 12539) = true := beq_iff_eq.2 h12539
    clear h8204 h8205 h183 h885 h1523 h1524 h12539
    go_enter Try.func22, Try.ntmps22
    go_wp2_with fail
    go_loopg [7] len (fun gg vi wr => ∃ k : Nat, vi = .int .i64 k ∧ k ≤ len ∧ gg = len - k ∧ Hid ((∀ j (hj : j < X.length), j < k → ¬ 8 ≤ scP X[j]) ∧ Below w.heap.size w wr))
    case atStart => exact ⟨0, rfl, Nat.zero_le _, rfl, fun j _ h => by omega, HB.out⟩
    case round =>
      obtain ⟨k, rfl, hk, hg, H⟩ := hrel
      have HG := hr hg
      clear hg HB
      by_cases hlt : k < len
      · have hlx : k < X.length := by rw [HLn.out]; exact hlt
        have zk : (k : Int) < (len : Int) := by omega
        have HE : Hid (rsI X (k : Int) = scP X[k]) := by
          show _ = _
          unfold rsI
          rw [if_pos (by omega), Int.toNat_natCast, List.getD_eq_getElem?_getD, List.getElem?_eq_getElem hlx]
          rfl
        have HC := hr (HSc.out (k : Int) wr H.out.2)
        rw [HE.out] at HC
        by_cases h8 : 8 ≤ scP X[k]
        · replace HM : Hid (metR r X i = true) := by show _ = _; rw [HM.out]; exact List.any_eq_true.2 ⟨X[k], List.getElem_mem hlx, decide_eq_true h8⟩
          generalize scP X[k] = y at *
          go_wp2_with fail
          refine HC.out.mono ?_
          rintro e w1 ⟨rfl, hb1⟩
          have HB := hr (H.out.2.trans (hb1.mono H.out.2.size))
          clear hb1
          go_wp2_with fail
          try rw [Exit.noGoto_ret]
          go_ret
          exact ⟨ret_bool HM.out.symm, HB.out⟩
        · have HN : Hid (∀ j (hj : j < X.length), j < k + 1 → ¬ 8 ≤ scP X[j]) := fun j hj h => by
            by_cases e : j = k
            · subst e; exact h8
            · exact H.out.1 j hj (by omega)
          generalize scP X[k] = y at *
          go_wp2_with fail
          refine HC.out.mono ?_
          rintro e w1 ⟨rfl, hb1⟩
          have HB := hr (H.out.2.trans (hb1.mono H.out.2.size))
          clear hb1
          go_wp2_with fail
          go_roundg (len - (k + 1))
          case measure => rw [HG.out]; omega
          case rel => exact ⟨k + 1, by go_num, by omega, rfl, HN.out, HB.out⟩
      · have zk : ¬ (k : Int) < (len : Int) := by omega
        replace HM : Hid (metR r X i = false) := by
          show _ = _
          rw [HM.out, List.any_eq_false]
          intro x hxx
          obtain ⟨j, hj, rfl⟩ := List.mem_iff_getElem.1 hxx
          have := H.out.1 j hj (by have := HLn.out; omega)
          rw [decide_eq_true_eq]; exact this
        go_wp2_with fail
        go_ret
        exact ⟨ret_bool HM.out.symm, H.out.2⟩
  rw [if_neg h8204, if_neg h8205, if_neg h183, if_neg h885, if_neg (by omega), if_neg h12539] at HM
  have n8204 : (r == 8204) = false := beq_eq_false_iff_ne.2 (by omega)
  have n8205 : (r == 8205) = false := beq_eq_false_iff_ne.2 (by omega)
  have n183 : (r == 183) = false := beq_eq_false_iff_ne.2 (by omega)
  have n885 : (r == 885) = false := beq_eq_false_iff_ne.2 (by omega)
  have n1523 : (r == 1523) = false := beq_eq_false_iff_ne.2 (by omega)
  have n1524 : (r == 1524) = false := beq_eq_false_iff_ne.2 (by omega)
  have n12539 : (r == 12539) = false := beq_eq_false_iff_ne.2 (by omega)
  clear h8204 h8205 h183 h885 h1523 h1524 h12539
  have ear : X.any arB = X.any (wnB 1632 1641) := rfl
  have eet : X.any etB = X.any (wnB 1776 1785) := rfl
  rw [ear, eet] at HM
  clear ear eet
  have hc : (r < 1632) ∨ (1632 ≤ r ∧ r ≤ 1641) ∨ (1641 < r ∧ r < 1776) ∨ (1776 ≤ r ∧ r ≤ 1785) ∨ (1785 < r) := by omega
  rcases hc with h | h | h | h | h
  · have ha : arB r = false := decide_eq_false (by omega)
    have he : etB r = false := decide_eq_false (by omega)
    rw [ha, he, if_neg (by simp), if_neg (by simp)] at HM
    have f0 : ¬ 1632 ≤ r := by omega
    have f1 : ¬ 1776 ≤ r := by omega
    clear h
    go_enter Try.func22, Try.ntmps22
    go_wp2_with fail
    go_ret
    exact ⟨ret_bool HM.out.symm, HB.out⟩
  · have ha : arB r = true := decide_eq_true h
    rw [ha, if_pos rfl] at HM
    have f0 : 1632 ≤ r := by omega
    have f1 : r ≤ 1641 := by omega
    clear h
    go_enter Try.func22, Try.ntmps22
    go_wp2_with fail
    refine (HWn.out 1776 1785).mono ?_
    rintro e w1 ⟨rfl, rfl⟩
    generalize X.any (wnB 1776 1785) = q1 at *
    go_wp2_with fail
    go_ret
    exact ⟨ret_bool HM.out.symm, HB.out⟩
  · have ha : arB r = false := decide_eq_false (by omega)
    have he : etB r = false := decide_eq_false (by omega)
    rw [ha, he, if_neg (by simp), if_neg (by simp)] at HM
    have f0 : 1632 ≤ r := by omega
    have f1 : ¬ r ≤ 1641 := by omega
    have f2 : ¬ 1776 ≤ r := by omega
    clear h
    go_enter Try.func22, Try.ntmps22
    go_wp2_with fail
    go_ret
    exact ⟨ret_bool HM.out.symm, HB.out⟩
  · have ha : arB r = false := decide_eq_false (by omega)
    have he : etB r = true := decide_eq_true h
    rw [ha, he, if_neg (by simp), if_pos rfl] at HM
    have f0 : 1632 ≤ r := by omega
    have f1 : ¬ r ≤ 1641 := by omega
    have f2 : 1776 ≤ r := by omega
    have f3 : r ≤ 1785 := by omega
    clear h
    go_enter Try.func22, Try.ntmps22
    go_wp2_with fail
    refine (HWn.out 1632 1641).mono ?_
    rintro e w1 ⟨rfl, rfl⟩
    generalize X.any (wnB 1632 1641) = q1 at *
    go_wp2_with fail
    go_ret
    exact ⟨ret_bool HM.out.symm, HB.out⟩
  · have ha : arB r = false := decide_eq_false (by omega)
    have he : etB r = false := decide_eq_false (by omega)
    rw [ha, he, if_neg (by simp), if_neg (by simp)] at HM
    have f0 : 1632 ≤ r := by omega
    have f1 : ¬ r ≤ 1641 := by omega
    have f2 : 1776 ≤ r := by omega
    have f3 : ¬ r ≤ 1785 := by omega
    clear h
    go_enter Try.func22, Try.ntmps22
    go_wp2_with fail
    go_ret
    exact ⟨ret_bool HM.out.symm, HB.out⟩
def mtP (X : List Int) (k : Nat) : Bool := metR (X.getD k 0) X k
theorem mt_get (X : List Int) (k : Nat) (h : k < X.length) : metR X[k] X k = mtP X k := by
  unfold mtP
  rw [List.getD_eq_getElem?_getD, List.getElem?_eq_getElem h]
  rfl
/-- The first place whose rule isn't met; -1. -/
def frM (X : List Int) : Nat → Nat → Int
  | 0, _ => -1
  | n + 1, k => if mtP X k = true then frM X n (k + 1) else k
theorem frM_step (X : List Int) (k : Nat) (h : k < X.length) : frM X (X.length - k) k = if mtP X k = true then frM X (X.length - (k + 1)) (k + 1) else (k : Int) := by
  rw [show X.length - k = X.length - (k + 1) + 1 by omega, frM]
theorem frM_end (X : List Int) (k : Nat) (h : X.length ≤ k) : frM X (X.length - k) k = -1 := by
  rw [show X.length - k = 0 by omega]
  rfl
set_option maxRecDepth 100000 in
set_option maxHeartbeats 4000000 in
theorem rfirst_any {w : World} {v : Value} {X : List Int} (h : Sl .i64 w v X) (hn : X.length ≤ 1000000) :
    Calls Try.prog 23 #[v] w fun e w' => e = .returned (.int .i64 (frM X X.length 0)) ∧ Below w.heap.size w w' := by
  have HMt := hr (fun (W : World) (hb : Below w.heap.size w W) (k : Nat) (hk : k < X.length) => by have h1 := rmet_any (h.step hb) hn k hk; rw [mt_get X k hk] at h1; exact h1)
  obtain ⟨ao, cap, rfl, h⟩ := h
  have H0 := hr (Below.refl w.heap.size w)
  have HSt := hr (frM_step X)
  have HEn := hr (frM_end X)
  clear h
  generalize hlen : X.length = len at *
  clear hlen
  go_enter Try.func23, Try.ntmps23
  go_wp2_with fail
  go_loopg [3] len (fun gg vi wr => ∃ k : Nat, vi = .int .i64 k ∧ k ≤ len ∧ gg = len - k ∧ Hid (frM X len 0 = frM X (len - k) k ∧ Below w.heap.size w wr))
  case atStart => exact ⟨0, rfl, Nat.zero_le _, rfl, rfl, H0.out⟩
  case round =>
    obtain ⟨k, rfl, hk, hg, H⟩ := hrel
    have HG := hr hg
    clear hg H0
    by_cases hlt : k < len
    · have z1 : (k : Int) < (len : Int) := by omega
      have HE : Hid (frM X len 0 = if mtP X k = true then frM X (len - (k + 1)) (k + 1) else (k : Int)) := by
        show _ = _
        rw [H.out.1]
        exact HSt.out k hlt
      have HC := hr (HMt.out wr H.out.2 k hlt)
      generalize mtP X k = q at *
      go_wp2_with fail
      refine HC.out.mono ?_
      rintro e w1 ⟨rfl, hb1⟩
      have HB := hr (H.out.2.trans (hb1.mono H.out.2.size))
      clear hb1
      cases q
      · rw [if_neg (by simp)] at HE
        go_wp2_with fail
        try rw [Exit.noGoto_ret]
        go_ret
        exact ⟨ret_int HE.out.symm, HB.out⟩
      · rw [if_pos rfl] at HE
        go_wp2_with fail
        go_roundg (len - (k + 1))
        case measure => rw [HG.out]; omega
        case rel => exact ⟨k + 1, by go_num, by omega, rfl, HE.out, HB.out⟩
    · have z1 : ¬ (k : Int) < (len : Int) := by omega
      have HE : Hid (frM X len 0 = -1) := by
        show _ = _
        rw [H.out.1]
        exact HEn.out k (by omega)
      go_wp2_with fail
      go_ret
      exact ⟨ret_int HE.out.symm, H.out.2⟩
def fmV (z : Int) : Value := .tuple #[.int .i64 (if z < 0 then 0 else z), .bool (decide (0 ≤ z))]
set_option maxRecDepth 100000 in
set_option maxHeartbeats 4000000 in
theorem first_any {w : World} {b : Nat} (hB : Bk w b) {ao : Option Addr} {n cap : Nat} {X : List Int} (hX : X.length = n) (hS : SlP .i32 w ao cap X) (hn : n ≤ 1000000) :
    Calls Try.prog 24 #[.pointer (some ⟨b, 0, none⟩), .slice ao n cap] w fun e w' => e = .returned (fmV (frM X X.length 0)) ∧ Below w.heap.size w w' := by
  have HL := hr (look_any hB hX hS hn)
  have HMt := hr (fun (W : World) (v : Nat) (h : Vw W v b ao n cap X) (k : Nat) (hk : k < X.length) => by have h1 := met_any h hn k (by omega) hk; rw [mt_get X k hk] at h1; exact h1)
  have HSt := hr (frM_step X)
  have HEn := hr (frM_end X)
  rw [hX] at HMt HSt HEn ⊢
  clear hB hS hX
  go_enter Try.func24, Try.ntmps24
  go_wp2_with fail
  refine HL.out.mono ?_
  rintro e w0 ⟨v, rfl, hV, hb⟩
  have H0 := hr (And.intro hV hb)
  clear hV hb HL
  go_wp2_with fail
  go_loopg [13] n (fun gg vi wr => ∃ k : Nat, vi = .int .i64 k ∧ k ≤ n ∧ gg = n - k ∧ Hid (frM X n 0 = frM X (n - k) k ∧ Vw wr v b ao n cap X ∧ Below w.heap.size w wr))
  case atStart => exact ⟨0, rfl, Nat.zero_le _, rfl, rfl, H0.out.1, H0.out.2⟩
  case round =>
    obtain ⟨k, rfl, hk, hg, H⟩ := hrel
    have HG := hr hg
    clear hg H0
    by_cases hlt : k < n
    · have z1 : (k : Int) < (n : Int) := by omega
      have HE : Hid (frM X n 0 = if mtP X k = true then frM X (n - (k + 1)) (k + 1) else (k : Int)) := by
        show _ = _
        rw [H.out.1]
        exact HSt.out k hlt
      have HC := hr (HMt.out wr v H.out.2.1 k hlt)
      generalize mtP X k = q at *
      go_wp2_with fail
      refine HC.out.mono ?_
      rintro e w1 ⟨rfl, hb1⟩
      have HB := hr (And.intro (H.out.2.1.step hb1) (H.out.2.2.trans (hb1.mono H.out.2.2.size)))
      clear hb1
      cases q
      · rw [if_neg (by simp)] at HE
        have HR : Hid (fmV (frM X n 0) = .tuple #[.int .i64 (k : Int), .bool true]) := by show _ = _; rw [HE.out]; unfold fmV; rw [if_neg (by omega), decide_eq_true (by omega)]
        go_wp2_with fail
        try rw [Exit.noGoto_ret]
        go_ret2
        exact ⟨by rw [HR.out]; rfl, HB.out.2⟩
      · rw [if_pos rfl] at HE
        go_wp2_with fail
        go_roundg (n - (k + 1))
        case measure => rw [HG.out]; omega
        case rel => exact ⟨k + 1, by go_num, by omega, rfl, HE.out, HB.out.1, HB.out.2⟩
    · have z1 : ¬ (k : Int) < (n : Int) := by omega
      have HR : Hid (fmV (frM X n 0) = .tuple #[.int .i64 0, .bool false]) := by
        show _ = _
        rw [H.out.1, HEn.out k (by omega)]
        rfl
      go_wp2_with fail
      go_ret2
      exact ⟨by rw [HR.out]; rfl, H.out.2.2⟩
end Ru
end Go.Proofs.Ytbamhbfncddieaa
