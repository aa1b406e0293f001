import Derived.Test.YtfbphacbnmimkaaUcd18
namespace Go.Proofs.Ytfbphacbnmimkaa
open Go.RowKit

theorem rlin_of_own {w : World} {B : Nat} {v : Value} {T : List Ln} (h : w.ownsRow B 26 7 v T.length (T.flatMap rcells7)) (h0 : 0 < T.length) : ∃ g cap, v = .slice (some ⟨g, 0, none⟩) T.length cap ∧ g < w.heap.size ∧ RLIn w g T := by
  rcases h.2 with ⟨_, h2⟩ | ⟨g, cap, cur, rfl, h2, h3, h4, h5, h6, h7⟩
  · omega
  · exact ⟨g, cap, rfl, (Array.getElem?_eq_some_iff.1 h3).1, fun k hk i hi => (h.cellAt (k * 7 + i) (by omega)).trans (rcells7_at T k i hk hi)⟩

theorem bel_dn {B : Nat} {a w : World} (h : Below B a w) (n : Nat) : Below B a (w.drewN n) := h.trans ⟨rfl, rfl, rfl, Nat.le_refl _, fun _ _ => rfl⟩

/-- How many of j code points from a on are of a kind, by a row. -/
def ccI (x : Ln) (k a : Int) : Nat → Int
  | 0 => 0
  | j + 1 => ccI x k a j + (if rkindP x (a + j) = k then 1 else 0)
theorem cc_bd (x : Ln) (k a : Int) : ∀ j : Nat, 0 ≤ ccI x k a j ∧ ccI x k a j ≤ j
  | 0 => by simp [ccI]
  | j + 1 => by
    have := cc_bd x k a j
    unfold ccI
    split <;> omega
def lineCnt (k : Int) (x : Ln) : Int := if x.2.2.1 < 12 then (if x.2.2.1 = k then x.2.1 - x.1 + 1 else 0) else ccI x k x.1 (x.2.1 - x.1 + 1).toNat
def lineAll (x : Ln) : Int := x.2.1 - x.1 + 1
def sumI (f : Ln → Int) : List Ln → Int
  | [] => 0
  | x :: l => f x + sumI f l
theorem sumI_app (f : Ln → Int) : ∀ (l m : List Ln), sumI f (l ++ m) = sumI f l + sumI f m
  | [], m => by simp [sumI]
  | x :: l, m => by rw [List.cons_append, sumI, sumI, sumI_app f l m]; omega
theorem sumI_snoc (f : Ln → Int) (T : List Ln) (k : Nat) (h : k < T.length) : sumI f (T.take (k + 1)) = sumI f (T.take k) + f T[k] := by
  rw [List.take_succ_eq_append_getElem h, sumI_app]; simp [sumI]
theorem sumI_bd (f : Ln → Int) (M : Int) : ∀ (T : List Ln), (∀ x ∈ T, 0 ≤ f x ∧ f x ≤ M) → 0 ≤ sumI f T ∧ sumI f T ≤ T.length * M
  | [], _ => by simp [sumI]
  | x :: T, h => by
    have h1 := h x (List.mem_cons_self ..)
    have h2 := sumI_bd f M T (fun y hy => h y (List.mem_cons_of_mem _ hy))
    rw [sumI, List.length_cons]
    have e : ((T.length + 1 : Nat) : Int) * M = (T.length : Int) * M + M := by
      rw [show ((T.length + 1 : Nat) : Int) = (T.length : Int) + 1 by omega, Int.add_mul, Int.one_mul]
    omega
/-- A line's ends. -/
def Ends (x : Ln) : Prop := 0 ≤ x.1 ∧ x.1 ≤ x.2.1 ∧ x.2.1 ≤ 1114111
theorem lineCnt_bd (k : Int) (x : Ln) (h : Ends x) : 0 ≤ lineCnt k x ∧ lineCnt k x ≤ 1114112 := by
  obtain ⟨h1, h2, h3⟩ := h
  have := cc_bd x k x.1 (x.2.1 - x.1 + 1).toNat
  unfold lineCnt
  split
  · split <;> omega
  · omega
theorem lineAll_bd (x : Ln) (h : Ends x) : 0 ≤ lineAll x ∧ lineAll x ≤ 1114112 := by
  obtain ⟨h1, h2, h3⟩ := h
  unfold lineAll; omega

/-- The reference's count. -/
def rcntV (T : List Ln) (k : Int) : Int := if k = 0 then 1114112 - sumI lineAll T else sumI (lineCnt k) T

set_option maxHeartbeats 4000000 in
set_option maxRecDepth 100000 in
theorem rcount_T {T : List Ln} (h0 : 0 < T.length) (hl : T.length ≤ 200) (hE : ∀ x ∈ T, Ends x) (w : World) (kd : Int) (hA : ∀ w : World, Calls Try.prog 33 #[] w fun e w' => ∃ v, e = .returned v ∧ w'.ownsRow w.heap.size 26 7 v T.length (T.flatMap rcells7) ∧ Below w.heap.size w w') :
    Calls Try.prog 17 #[.int .i64 kd] w fun e w' => e = .returned (.int .i64 (rcntV T kd)) ∧ Below w.heap.size w w' := by
  have HA := hid (hA w)
  have HE := hid hE
  clear hA hE
  go_enter Try.func17, Try.ntmps17
  go_wp2_with fail
  refine HA.out.mono ?_
  rintro e w1 ⟨v, rfl, ho1, hb1⟩
  obtain ⟨g, cap, rfl, hgl, hR⟩ := rlin_of_own ho1 h0
  have HB1 := hid hb1
  have HR := hid (And.intro hgl hR)
  clear ho1 hb1 HA hgl hR
  go_wp2_with fail
  go_loopg [6, 3, 4] T.length (fun gg i n kn wr => ∃ j : Nat, j ≤ T.length ∧ gg = T.length - j ∧ i = .int .i64 j ∧ n = .int .i64 (sumI (lineCnt kd) (T.take j)) ∧ kn = .int .i64 (sumI lineAll (T.take j)) ∧ Hid (Below w1.heap.size w1 wr))
  case atStart => exact ⟨0, Nat.zero_le _, by omega, rfl, rfl, rfl, Below.refl _ _⟩
  case round =>
    obtain ⟨j, hj, hg, rfl, rfl, rfl, HB⟩ := hrel
    have HG := hid hg
    clear hg
    have hn := sumI_bd (lineCnt kd) 1114112 (T.take j) (fun x hx => lineCnt_bd kd x (HE.out x (List.mem_of_mem_take hx)))
    have hkn := sumI_bd lineAll 1114112 (T.take j) (fun x hx => lineAll_bd x (HE.out x (List.mem_of_mem_take hx)))
    rw [List.length_take_of_le hj] at hn hkn
    have hn0 := hn.1
    have hn1 : sumI (lineCnt kd) (T.take j) ≤ 222822400 := by have := hn.2; omega
    have hk0 := hkn.1
    have hk1 : sumI lineAll (T.take j) ≤ 222822400 := by have := hkn.2; omega
    clear hn hkn
    by_cases hlt : j < T.length
    · have c := fun i hi => (HB.out.cell (p := ⟨g, j * 7 + i, none⟩) HR.out.1).trans (HR.out.2 j hlt i hi)
      have d0 := c 0 (by omega)
      have d1 := c 1 (by omega)
      have d2 := c 2 (by omega)
      have d3 := c 3 (by omega)
      have d4 := c 4 (by omega)
      have d5 := c 5 (by omega)
      have d6 := c 6 (by omega)
      have ⟨e0, e1, e2⟩ := HE.out T[j] (List.getElem_mem hlt)
      have HS1 := hid (sumI_snoc (lineCnt kd) T j hlt)
      have HS2 := hid (sumI_snoc lineAll T j hlt)
      have b1 : (0 : Int) ≤ j ∧ (j : Int) < (T.length : Int) := by omega
      have hgl := hid HR.out.1
      clear c HR HE
      generalize T[j] = x at *
      obtain ⟨x1, x2, x3, x4, x5, x6, x7⟩ := x
      simp only [rcells7, List.getElem?_cons_zero, List.getElem?_cons_succ, Nat.add_zero] at d0 d1 d2 d3 d4 d5 d6 e0 e1 e2
      generalize sumI (lineCnt kd) (T.take j) = n at *
      generalize sumI lineAll (T.take j) = kn at *
      have q1 : IntKind.i64.wrap (x2 - x1) = x2 - x1 := by rw [IntKind.wrap_i64]; omega
      have q2 : IntKind.i64.wrap (x2 - x1 + 1) = x2 - x1 + 1 := by rw [IntKind.wrap_i64]; omega
      have HS2' : Hid (sumI lineAll (T.take (j + 1)) = kn + (x2 - x1 + 1)) := HS2.out
      clear HS2
      by_cases hc : x3 < 12
      · by_cases hk2 : x3 = kd
        · have H1 : Hid (sumI (lineCnt kd) (T.take (j + 1)) = n + (x2 - x1 + 1)) := by show _ = _; rw [HS1.out, lineCnt, if_pos hc, if_pos hk2]
          clear HS1
          go_wp2_with fail
          go_quiet (fail)
          go_wp2_with fail
          go_roundg (T.length - (j + 1))
          case measure => rw [HG.out]; omega
          case rel => exact ⟨j + 1, by omega, rfl, by go_num, by rw [H1.out], by rw [HS2'.out], bel_dn HB.out _⟩
        · have H1 : Hid (sumI (lineCnt kd) (T.take (j + 1)) = n) := by show _ = _; rw [HS1.out, lineCnt, if_pos hc, if_neg hk2]; omega
          clear HS1
          go_wp2_with fail
          go_quiet (fail)
          go_wp2_with fail
          go_roundg (T.length - (j + 1))
          case measure => rw [HG.out]; omega
          case rel => exact ⟨j + 1, by omega, rfl, by go_num, by rw [H1.out], by rw [HS2'.out], bel_dn HB.out _⟩
      · obtain ⟨m, hm⟩ : ∃ m, m = (x2 - x1 + 1).toNat := ⟨_, rfl⟩
        have H1 : Hid (sumI (lineCnt kd) (T.take (j + 1)) = n + ccI (x1, x2, x3, x4, x5, x6, x7) kd x1 m) := by show _ = _; rw [HS1.out, lineCnt, if_neg hc, hm]
        have HK := hid (fun w r => rkind_any w (x1, x2, x3, x4, x5, x6, x7) r)
        simp only [rlv, rcells7] at HK
        have HC := hid (cc_bd (x1, x2, x3, x4, x5, x6, x7) kd x1)
        have HCS : Hid (∀ i : Nat, ccI (x1, x2, x3, x4, x5, x6, x7) kd x1 (i + 1) = ccI (x1, x2, x3, x4, x5, x6, x7) kd x1 i + (if rkindP (x1, x2, x3, x4, x5, x6, x7) (x1 + i) = kd then 1 else 0)) := fun i => rfl
        clear HS1
        go_wp2_with fail
        go_quiet (fail)
        have HD : Hid (∀ wq : World, Below w1.heap.size w1 wq → wq.cell? ⟨g, j * 7, none⟩ = some (.int .i64 x1) ∧ wq.cell? ⟨g, j * 7 + 1, none⟩ = some (.int .i64 x2) ∧ wq.cell? ⟨g, j * 7 + 2, none⟩ = some (.int .i64 x3) ∧ wq.cell? ⟨g, j * 7 + 3, none⟩ = some (.int .i64 x4) ∧ wq.cell? ⟨g, j * 7 + 4, none⟩ = some (.int .i64 x5) ∧ wq.cell? ⟨g, j * 7 + 5, none⟩ = some (.int .i64 x6) ∧ wq.cell? ⟨g, j * 7 + 6, none⟩ = some (.int .i64 x7)) := fun wq hq => by
          have c := fun i v (h : wr.cell? ⟨g, j * 7 + i, none⟩ = some v) => (hq.cell (p := ⟨g, j * 7 + i, none⟩) hgl.out).trans ((HB.out.cell (p := ⟨g, j * 7 + i, none⟩) hgl.out).symm.trans h)
          exact ⟨c 0 _ d0, c 1 _ d1, c 2 _ d2, c 3 _ d3, c 4 _ d4, c 5 _ d5, c 6 _ d6⟩
        go_wp2_with fail
        go_loopg [8, 3] m (fun gg rv nv wq => ∃ i : Nat, i ≤ m ∧ gg = m - i ∧ rv = .int .i64 (x1 + i) ∧ nv = .int .i64 (n + ccI (x1, x2, x3, x4, x5, x6, x7) kd x1 i) ∧ Hid (Below w1.heap.size w1 wq))
        case atStart => exact ⟨0, Nat.zero_le _, by omega, by simp, by simp [ccI], bel_dn HB.out _⟩
        case round =>
          clear d0 d1 d2 d3 d4 d5 d6 HB
          obtain ⟨i, hi, hgi, rfl, rfl, HB⟩ := hrel
          have HGI := hid hgi
          obtain ⟨d0, d1, d2, d3, d4, d5, d6⟩ := HD.out _ HB.out
          have hci0 := (HC.out i).1
          have hci1 : ccI (x1, x2, x3, x4, x5, x6, x7) kd x1 i ≤ 1114112 := by have := (HC.out i).2; omega
          clear hgi HD
          by_cases hle : x1 + (i : Int) ≤ x2
          · have er : Hid (x1 + (i : Int) + 1 = x1 + ((i + 1 : Nat) : Int)) := by show _ = _; omega
            have hr0 : 0 ≤ x1 + (i : Int) := by omega
            have hr1 : x1 + (i : Int) ≤ 1114111 := by omega
            have HCI := hid (HCS.out i)
            have HKI := hid (fun w => HK.out w (x1 + i))
            clear HCS HK
            generalize rkindP (x1, x2, x3, x4, x5, x6, x7) (x1 + i) = kk at *
            generalize ccI (x1, x2, x3, x4, x5, x6, x7) kd x1 i = cc at *
            by_cases hkk : kk = kd
            · have HN2 : Hid (ccI (x1, x2, x3, x4, x5, x6, x7) kd x1 (i + 1) = cc + 1) := by show _ = _; rw [HCI.out, if_pos hkk]
              clear HCI
              go_wp2_with (go_at_call 32; refine (HKI.out _).mono ?_; rintro e w' ⟨rfl, hb'⟩; replace HB := hid (HB.out.trans (hb'.mono HB.out.size)); clear hb')
              go_roundg (m - (i + 1))
              case measure => rw [HGI.out]; omega
              case rel => exact ⟨i + 1, by omega, rfl, by rw [← er.out], by rw [HN2.out]; congr 1; omega, HB.out⟩
            · have HN2 : Hid (ccI (x1, x2, x3, x4, x5, x6, x7) kd x1 (i + 1) = cc) := by show _ = _; rw [HCI.out, if_neg hkk]; omega
              clear HCI
              go_wp2_with (go_at_call 32; refine (HKI.out _).mono ?_; rintro e w' ⟨rfl, hb'⟩; replace HB := hid (HB.out.trans (hb'.mono HB.out.size)); clear hb')
              go_roundg (m - (i + 1))
              case measure => rw [HGI.out]; omega
              case rel => exact ⟨i + 1, by omega, rfl, by rw [← er.out], by rw [HN2.out], HB.out⟩
          · have e : i = m := by omega
            subst e
            rw [← H1.out]
            go_wp2_with fail
            go_roundg (T.length - (j + 1))
            case measure => rw [HG.out]; omega
            case rel => exact ⟨j + 1, by omega, rfl, by go_num, rfl, by rw [HS2'.out], HB.out⟩
    · have e : j = T.length := by omega
      subst e
      rw [List.take_length] at hn0 hn1 hk0 hk1
      rw [List.take_length]
      have HBE := hid (HB1.out.trans (HB.out.mono HB1.out.size))
      clear HR HE HB HB1
      by_cases hz : kd = 0
      · have HV : Hid (rcntV T kd = 1114112 - sumI lineAll T) := if_pos hz
        go_wp2_with fail
        go_ret
        exact ⟨ret_int HV.out.symm, HBE.out⟩
      · have HV : Hid (rcntV T kd = sumI (lineCnt kd) T) := if_neg hz
        go_wp2_with fail
        go_ret
        exact ⟨ret_int HV.out.symm, HBE.out⟩
end Go.Proofs.Ytfbphacbnmimkaa
