import Derived.Test.YtclcmkklonnalaaGreatPr14
namespace Go.Proofs.YtclcmkklonnalaaGreat.Pr
open Go.RowKit

/-- The reference's rows as they are read. -/
def RR3 (w : World) (g : Nat) (T : List R3) : Prop := g < w.heap.size ∧ ∀ k (h : k < T.length), w.cell? ⟨g, k * 3, none⟩ = some (.int .i64 T[k].1) ∧ w.cell? ⟨g, k * 3 + 1, none⟩ = some (.int .i64 T[k].2.1) ∧ w.cell? ⟨g, k * 3 + 2, none⟩ = some (.int .i64 T[k].2.2)
theorem rc3_at : ∀ (l : List R3) (j i : Nat) (h : j < l.length), i < 3 → (l.flatMap rc3)[j * 3 + i]? = (rc3 l[j])[i]?
  | [], _, _, h, _ => by simp at h
  | x :: l, 0, i, _, hi => by
    simp only [List.flatMap_cons, Nat.zero_mul, Nat.zero_add, List.getElem_cons_zero]
    rw [List.getElem?_append_left (by simp [rc3]; omega)]
  | x :: l, j + 1, i, h, hi => by
    have := rc3_at l j i (by simpa using h) hi
    rw [List.flatMap_cons, List.getElem?_append_right (by simp [rc3]; omega)]
    rw [show (j + 1) * 3 + i - (rc3 x).length = j * 3 + i by simp [rc3]; omega, this]
    rfl
theorem rr3_of_own {w : World} {B : Nat} {v : Value} {T : List R3} (h : w.ownsRow B 147 3 v T.length (T.flatMap rc3)) (h0 : 0 < T.length) : ∃ g cap, v = .slice (some ⟨g, 0, none⟩) T.length cap ∧ RR3 w g T := by
  rcases h.2 with ⟨_, h2⟩ | ⟨g, cap, cur, rfl, h2, h3, h4, h5, h6, h7⟩
  · omega
  · refine ⟨g, cap, rfl, (Array.getElem?_eq_some_iff.1 h3).1, fun k hk => ?_⟩
    have c := fun i (hi : i < 3) => (h.cellAt (k * 3 + i) (by omega)).trans (rc3_at T k i hk hi)
    exact ⟨c 0 (by omega), c 1 (by omega), c 2 (by omega)⟩
theorem RR3.step {w w' : World} {g : Nat} {T : List R3} (h : RR3 w g T) (hb : Below w.heap.size w w') : RR3 w' g T :=
  ⟨Nat.lt_of_lt_of_le h.1 hb.size, fun k hk => ⟨(hb.cell (p := ⟨g, k * 3, none⟩) h.1).trans (h.2 k hk).1, (hb.cell (p := ⟨g, k * 3 + 1, none⟩) h.1).trans (h.2 k hk).2.1, (hb.cell (p := ⟨g, k * 3 + 2, none⟩) h.1).trans (h.2 k hk).2.2⟩⟩

/-- What the first row of a code point says. -/
def rdP (r : Int) : List R3 → Pt
  | [] => (0, 0, 0)
  | x :: l => if x.1 = r then valP x else rdP r l

set_option maxHeartbeats 4000000 in
set_option maxRecDepth 100000 in
theorem rdown_any {w : World} {g cap : Nat} {T : List R3} (h : RR3 w g T) (hl : T.length ≤ 1000) (r : Int) {y1 y2 y3 : Int} (hy : rdP r T = (y1, y2, y3)) :
    Calls Tryz.prog 63 #[.slice (some ⟨g, 0, none⟩) T.length cap, .int .i64 r] w fun e w' => e = .returned (.tuple #[.agg #[.int .i64 y1, .int .i64 y2], .int .i64 y3]) ∧ Below w.heap.size w w' := by
  have HC := hid h
  have HY := hid hy
  clear h hy
  go_enter Tryz.func63, Tryz.ntmps63
  go_wp2_with fail
  go_loop [6] (fun i => ∃ k : Nat, k ≤ T.length ∧ i = .int .i64 k ∧ Hid (rdP r T = rdP r (T.drop k))) (fun i => T.length - (intOf i).toNat)
  case atStart => exact ⟨0, Nat.zero_le _, rfl, rfl⟩
  case round =>
    obtain ⟨k, hk, rfl, H⟩ := hrel
    by_cases hlt : k < T.length
    · have hcs := HC.out.2 k hlt
      have hgl := HC.out.1
      have hb0 : Below w.heap.size w (w.alloc (.cells #[.int .i64 0, .int .i64 0] 98)) := (Below.refl _ _).alloc (Nat.le_refl _) _
      have d0 := (hb0.cell (p := ⟨g, k * 3, none⟩) hgl).trans hcs.1
      have d1 := (hb0.cell (p := ⟨g, k * 3 + 1, none⟩) hgl).trans hcs.2.1
      have d2 := (hb0.cell (p := ⟨g, k * 3 + 2, none⟩) hgl).trans hcs.2.2
      have HCC : Hid (∀ wq : World, Below w.heap.size w wq → wq.cell? ⟨g, k * 3 + 1, none⟩ = some (.int .i64 T[k].2.1) ∧ wq.cell? ⟨g, k * 3 + 2, none⟩ = some (.int .i64 T[k].2.2)) := fun wq hq => ⟨(hq.cell (p := ⟨g, k * 3 + 1, none⟩) hgl).trans hcs.2.1, (hq.cell (p := ⟨g, k * 3 + 2, none⟩) hgl).trans hcs.2.2⟩
      have H2 : Hid (rdP r T = if T[k].1 = r then valP T[k] else rdP r (T.drop (k + 1))) := by
        show _ = _
        rw [H.out, List.drop_eq_getElem_cons hlt]; rfl
      have b1 : (0 : Int) ≤ k ∧ (k : Int) < (T.length : Int) := by omega
      clear hcs hb0 HC H
      generalize T[k] = x at *
      obtain ⟨x1, x2, x3⟩ := x
      simp only at d0 d1 d2 H2 HCC
      by_cases h1 : x1 = r
      · have H3 : Hid ((y1, y2, y3) = valP (x1, x2, x3)) := by show _ = _; rw [← HY.out, H2.out, if_pos h1]
        by_cases h2 : x3 = 0
        · have e : valP (x1, x2, x3) = (x2, 0, 1) := by unfold valP; rw [if_pos h2]; simp [h2]
          have H4 := H3.out
          rw [e] at H4
          simp only [Prod.mk.injEq] at H4
          obtain ⟨rfl, rfl, rfl⟩ := H4
          clear H2 H3 HY e
          go_wp2_with fail
          exact bodyPost_ret (v := .tuple #[.agg #[.int .i64 y1, .int .i64 0], .int .i64 1]) (by simp [results, Tryz.results63, go_sem]) rfl ⟨rfl, (Below.refl _ _).alloc (Nat.le_refl _) _⟩
        · have e : valP (x1, x2, x3) = (x2, x3, 2) := by unfold valP; rw [if_neg h2]
          have H4 := H3.out
          rw [e] at H4
          simp only [Prod.mk.injEq] at H4
          obtain ⟨rfl, rfl, rfl⟩ := H4
          clear H2 H3 HY e
          go_wp2_with fail
          go_region_held3 (fun w' => w'.cell? ⟨g, k * 3 + 1, none⟩ = some (.int .i64 y1) ∧ w'.cell? ⟨g, k * 3 + 2, none⟩ = some (.int .i64 y2))
            (first | exact ⟨d1, d2⟩ | exact HCC.out _ ((Below.refl _ _).alloc (Nat.le_refl _) _) | exact HCC.out _ (((Below.refl _ _).drew).alloc (Nat.le_refl _) _) | exact HCC.out _ (((Below.refl _ _).alloc (Nat.le_refl _) _).drew))
            (fail)
          go_wp2_with fail
          exact bodyPost_ret (v := .tuple #[.agg #[.int .i64 y1, .int .i64 y2], .int .i64 2]) (by simp [results, Tryz.results63, go_sem]) rfl ⟨rfl, ((Below.refl _ _).alloc (Nat.le_refl _) _).drew⟩
      · have H3 : Hid (rdP r T = rdP r (T.drop (k + 1))) := by show _ = _; rw [H2.out, if_neg h1]
        clear H2
        go_wp2_with fail
        go_round
        case rel => exact ⟨k + 1, by omega, by go_num, H3.out⟩
        case measure => simp [intOf]; omega
    · have e : k = T.length := by omega
      subst e
      have H3 : (y1, y2, y3) = (0, 0, 0) := by rw [← HY.out, H.out, List.drop_length]; rfl
      simp only [Prod.mk.injEq] at H3
      obtain ⟨rfl, rfl, rfl⟩ := H3
      clear H HC HY
      go_wp2_with fail
      exact bodyPost_ret (v := .tuple #[.agg #[.int .i64 0, .int .i64 0], .int .i64 0]) (by simp [results, Tryz.results63, go_sem]) rfl ⟨rfl, (Below.refl _ _).alloc (Nat.le_refl _) _⟩

/-- Excluded, as the reference tells it. -/
def rexq (T : List R3) (r : Int) : Bool := (rdP r T).2.2 == 1 || exB r

set_option maxHeartbeats 2000000 in
theorem rex_any {w : World} {g cap : Nat} {T : List R3} (h : RR3 w g T) (hl : T.length ≤ 1000) (r : Int) :
    Calls Tryz.prog 30 #[.slice (some ⟨g, 0, none⟩) T.length cap, .int .i64 r] w fun e w' => e = .returned (.bool (rexq T r)) ∧ Below w.heap.size w w' := by
  obtain ⟨y1, y2, y3, hy⟩ : ∃ y1 y2 y3, rdP r T = (y1, y2, y3) := ⟨_, _, _, rfl⟩
  have HD := hid (rdown_any (cap := cap) h hl r hy)
  have E : Hid (rexq T r = (y3 == 1 || exB r)) := by show _ = _; unfold rexq; rw [hy]
  have hok := Ok.start w
  clear h hy
  by_cases h1 : y3 = 1
  · have E2 : Hid (rexq T r = true) := by show _ = _; rw [E.out, h1]; rfl
    subst h1
    go_enter Tryz.func30, Tryz.ntmps30
    go_wp2_with (go_at_call 63; refine HD.out.mono ?_; rintro e w1 ⟨rfl, hb1⟩; replace hok := hok.step hb1; clear hb1)
    go_ret
    exact ⟨ret_bool E2.out.symm, hok.alloc.1⟩
  have h1' : (y3 == 1) = false := by simpa using h1
  by_cases h2 : r = 836
  · have E2 : Hid (rexq T r = true) := by show _ = _; rw [E.out, h1', h2]; rfl
    subst h2
    go_enter Tryz.func30, Tryz.ntmps30
    go_wp2_with (go_at_call 63; refine HD.out.mono ?_; rintro e w1 ⟨rfl, hb1⟩; replace hok := hok.step hb1; clear hb1)
    go_ret
    exact ⟨ret_bool E2.out.symm, hok.alloc.1⟩
  have h2' : (r == 836) = false := by simpa using h2
  by_cases h3 : 2392 ≤ r
  · by_cases h4 : r ≤ 2399
    · have E2 : Hid (rexq T r = true) := by show _ = _; rw [E.out, h1', exB, h2', decide_eq_true h3, decide_eq_true h4]; rfl
      go_enter Tryz.func30, Tryz.ntmps30
      go_wp2_with (go_at_call 63; refine HD.out.mono ?_; rintro e w1 ⟨rfl, hb1⟩; replace hok := hok.step hb1; clear hb1)
      go_ret
      exact ⟨ret_bool E2.out.symm, hok.alloc.1⟩
    · have E2 : Hid (rexq T r = false) := by show _ = _; rw [E.out, h1', exB, h2', decide_eq_false h4, Bool.and_false]; rfl
      go_enter Tryz.func30, Tryz.ntmps30
      go_wp2_with (go_at_call 63; refine HD.out.mono ?_; rintro e w1 ⟨rfl, hb1⟩; replace hok := hok.step hb1; clear hb1)
      go_ret
      exact ⟨ret_bool ((decide_eq_false (by omega)).trans E2.out.symm), hok.alloc.1⟩
  · have E2 : Hid (rexq T r = false) := by show _ = _; rw [E.out, h1', exB, h2', decide_eq_false h3, Bool.false_and]; rfl
    go_enter Tryz.func30, Tryz.ntmps30
    go_wp2_with (go_at_call 63; refine HD.out.mono ?_; rintro e w1 ⟨rfl, hb1⟩; replace hok := hok.step hb1; clear hb1)
    go_ret
    exact ⟨ret_bool E2.out.symm, hok.alloc.1⟩

/-- Is it the second of a row that isn't excluded? -/
def rsB (A : List R3) (r : Int) : List R3 → Bool
  | [] => false
  | x :: l => if x.2.2 = r ∧ r ≠ 0 ∧ rexq A x.1 = false then true else rsB A r l
/-- What two make. -/
def rupP (A : List R3) (a b : Int) : List R3 → Int
  | [] => -1
  | x :: l => if x.2.1 = a ∧ x.2.2 = b ∧ b ≠ 0 ∧ rexq A x.1 = false then x.1 else rupP A a b l

set_option maxHeartbeats 4000000 in
set_option maxRecDepth 100000 in
theorem rsec_any {w : World} {g cap : Nat} {T : List R3} (h : RR3 w g T) (hl : T.length ≤ 1000) (r : Int) :
    Calls Tryz.prog 64 #[.slice (some ⟨g, 0, none⟩) T.length cap, .int .i64 r] w fun e w' => e = .returned (.bool (rsB T r T)) ∧ Below w.heap.size w w' := by
  have HC := hid h
  have HX := hid (fun (w : World) (h : RR3 w g T) (r : Int) => rex_any (cap := cap) h hl r)
  clear h
  go_enter Tryz.func64, Tryz.ntmps64
  go_wp2_with fail
  go_loopg [5] T.length (fun gg i wr => ∃ k : Nat, k ≤ T.length ∧ gg = T.length - k ∧ i = .int .i64 k ∧ Hid (rsB T r T = rsB T r (T.drop k)) ∧ Hid (Below w.heap.size w wr))
  case atStart => exact ⟨0, Nat.zero_le _, by omega, rfl, rfl, Below.refl _ _⟩
  case round =>
    obtain ⟨k, hk, hg, rfl, H, HB⟩ := hrel
    have HG := hid hg
    clear hg
    by_cases hlt : k < T.length
    · have HRw := hid (HC.out.step HB.out)
      obtain ⟨d0, d1, d2⟩ := HRw.out.2 k hlt
      have H2 : Hid (rsB T r T = if T[k].2.2 = r ∧ r ≠ 0 ∧ rexq T T[k].1 = false then true else rsB T r (T.drop (k + 1))) := by
        show _ = _
        rw [H.out, List.drop_eq_getElem_cons hlt]; rfl
      have b1 : (0 : Int) ≤ k ∧ (k : Int) < (T.length : Int) := by omega
      clear HC H
      generalize T[k] = x at *
      obtain ⟨x1, x2, x3⟩ := x
      simp only at d0 d1 d2 H2
      by_cases h1 : x3 = r
      · by_cases h2 : r = 0
        · have H3 : Hid (rsB T r T = rsB T r (T.drop (k + 1))) := by show _ = _; rw [H2.out, if_neg (fun h => h.2.1 h2)]
          have h2' : (r != 0) = false := by simp [h2]
          subst h1
          clear H2 h2
          go_wp2_with fail
          go_roundg (T.length - (k + 1))
          case measure => rw [HG.out]; omega
          case rel => exact ⟨k + 1, by omega, rfl, by go_num, H3.out, HB.out⟩
        · have h2' : (r != 0) = true := by simpa using h2
          subst h1
          cases he : rexq T x1 with
          | false =>
            have H3 : Hid (rsB T x3 T = true) := by show _ = _; rw [H2.out, if_pos ⟨rfl, h2, he⟩]
            clear H2
            go_wp2_with (go_at_call 30; refine (HX.out _ HRw.out _).mono ?_; rintro e w1 ⟨rfl, hb1⟩; replace HB := hid (HB.out.trans (hb1.mono HB.out.size)); clear hb1)
            go_ret
            exact ⟨ret_bool H3.out.symm, HB.out⟩
          | true =>
            have H3 : Hid (rsB T x3 T = rsB T x3 (T.drop (k + 1))) := by show _ = _; rw [H2.out, if_neg (fun h => by rw [he] at h; exact absurd h.2.2 (by simp))]
            clear H2
            go_wp2_with (go_at_call 30; refine (HX.out _ HRw.out _).mono ?_; rintro e w1 ⟨rfl, hb1⟩; replace HB := hid (HB.out.trans (hb1.mono HB.out.size)); clear hb1)
            go_roundg (T.length - (k + 1))
            case measure => rw [HG.out]; omega
            case rel => exact ⟨k + 1, by omega, rfl, by go_num, H3.out, HB.out⟩
      · have H3 : Hid (rsB T r T = rsB T r (T.drop (k + 1))) := by show _ = _; rw [H2.out, if_neg (fun h => h1 h.1)]
        have h1' : (x3 == r) = false := by simpa using h1
        clear H2
        go_wp2_with fail
        go_roundg (T.length - (k + 1))
        case measure => rw [HG.out]; omega
        case rel => exact ⟨k + 1, by omega, rfl, by go_num, H3.out, HB.out⟩
    · have e : k = T.length := by omega
      subst e
      have H3 : Hid (rsB T r T = false) := by show _ = _; rw [H.out, List.drop_length]; rfl
      clear H HC
      go_wp2_with fail
      go_ret
      exact ⟨ret_bool H3.out.symm, HB.out⟩

set_option maxHeartbeats 4000000 in
set_option maxRecDepth 100000 in
theorem rup_any {w : World} {g cap : Nat} {T : List R3} (h : RR3 w g T) (hl : T.length ≤ 1000) (a b : Int) :
    Calls Tryz.prog 101 #[.slice (some ⟨g, 0, none⟩) T.length cap, .int .i64 a, .int .i64 b] w fun e w' => e = .returned (.int .i64 (rupP T a b T)) ∧ Below w.heap.size w w' := by
  have HC := hid h
  have HX := hid (fun (w : World) (h : RR3 w g T) (r : Int) => rex_any (cap := cap) h hl r)
  clear h
  go_enter Tryz.func101, Tryz.ntmps101
  go_wp2_with fail
  go_loopg [7] T.length (fun gg i wr => ∃ k : Nat, k ≤ T.length ∧ gg = T.length - k ∧ i = .int .i64 k ∧ Hid (rupP T a b T = rupP T a b (T.drop k)) ∧ Hid (Below w.heap.size w wr))
  case atStart => exact ⟨0, Nat.zero_le _, by omega, rfl, rfl, Below.refl _ _⟩
  case round =>
    obtain ⟨k, hk, hg, rfl, H, HB⟩ := hrel
    have HG := hid hg
    clear hg
    by_cases hlt : k < T.length
    · have HRw := hid (HC.out.step HB.out)
      obtain ⟨d0, d1, d2⟩ := HRw.out.2 k hlt
      have HRq := hid (fun (w' : World) (hq : Below w.heap.size w w') => (HC.out.step hq).2 k hlt)
      have H2 : Hid (rupP T a b T = if T[k].2.1 = a ∧ T[k].2.2 = b ∧ b ≠ 0 ∧ rexq T T[k].1 = false then T[k].1 else rupP T a b (T.drop (k + 1))) := by
        show _ = _
        rw [H.out, List.drop_eq_getElem_cons hlt]; rfl
      have b1 : (0 : Int) ≤ k ∧ (k : Int) < (T.length : Int) := by omega
      clear HC H
      generalize T[k] = x at *
      obtain ⟨x1, x2, x3⟩ := x
      simp only at d0 d1 d2 H2 HRq
      by_cases h0 : x2 = a
      · by_cases h1 : x3 = b
        · by_cases h2 : b = 0
          · have H3 : Hid (rupP T a b T = rupP T a b (T.drop (k + 1))) := by show _ = _; rw [H2.out, if_neg (fun h => h.2.2.1 h2)]
            have h2' : (b != 0) = false := by simp [h2]
            subst h0
            subst h1
            clear H2 h2
            go_wp2_with fail
            go_roundg (T.length - (k + 1))
            case measure => rw [HG.out]; omega
            case rel => exact ⟨k + 1, by omega, rfl, by go_num, H3.out, HB.out⟩
          · have h2' : (b != 0) = true := by simpa using h2
            subst h0
            subst h1
            cases he : rexq T x1 with
            | false =>
              have H3 : Hid (rupP T x2 x3 T = x1) := by show _ = _; rw [H2.out, if_pos ⟨rfl, rfl, h2, he⟩]
              clear H2
              go_wp2_with (go_at_call 30; refine (HX.out _ HRw.out _).mono ?_; rintro e w1 ⟨rfl, hb1⟩; replace HB := hid (HB.out.trans (hb1.mono HB.out.size)); clear hb1; obtain ⟨z0, z1, z2⟩ := HRq.out _ HB.out)
              go_ret
              exact ⟨ret_int H3.out.symm, HB.out⟩
            | true =>
              have H3 : Hid (rupP T x2 x3 T = rupP T x2 x3 (T.drop (k + 1))) := by show _ = _; rw [H2.out, if_neg (fun h => by rw [he] at h; exact absurd h.2.2.2 (by simp))]
              clear H2
              go_wp2_with (go_at_call 30; refine (HX.out _ HRw.out _).mono ?_; rintro e w1 ⟨rfl, hb1⟩; replace HB := hid (HB.out.trans (hb1.mono HB.out.size)); clear hb1; obtain ⟨z0, z1, z2⟩ := HRq.out _ HB.out)
              go_roundg (T.length - (k + 1))
              case measure => rw [HG.out]; omega
              case rel => exact ⟨k + 1, by omega, rfl, by go_num, H3.out, HB.out⟩
        · have H3 : Hid (rupP T a b T = rupP T a b (T.drop (k + 1))) := by show _ = _; rw [H2.out, if_neg (fun h => h1 h.2.1)]
          have h1' : (x3 == b) = false := by simpa using h1
          subst h0
          clear H2
          go_wp2_with fail
          go_roundg (T.length - (k + 1))
          case measure => rw [HG.out]; omega
          case rel => exact ⟨k + 1, by omega, rfl, by go_num, H3.out, HB.out⟩
      · have H3 : Hid (rupP T a b T = rupP T a b (T.drop (k + 1))) := by show _ = _; rw [H2.out, if_neg (fun h => h0 h.1)]
        have h0' : (x2 == a) = false := by simpa using h0
        clear H2
        go_wp2_with fail
        go_roundg (T.length - (k + 1))
        case measure => rw [HG.out]; omega
        case rel => exact ⟨k + 1, by omega, rfl, by go_num, H3.out, HB.out⟩
    · have e : k = T.length := by omega
      subst e
      have H3 : Hid (rupP T a b T = -1) := by show _ = _; rw [H.out, List.drop_length]; rfl
      clear H HC
      go_wp2_with fail
      go_ret
      exact ⟨ret_int H3.out.symm, HB.out⟩
end Go.Proofs.YtclcmkklonnalaaGreat.Pr
