import Derived.Test.YtemdmalcoemhnabGreatUcd15
namespace Go.Proofs.YtemdmalcoemhnabGreat.Uc
open Go.RowKit

def zLn : Ln := (0, 0, 0, 0, 0, 0, 0)
/-- The first row that holds a code point. -/
def findL (r : Int) : List Ln → Ln
  | [] => zLn
  | x :: xs => if x.1 ≤ r ∧ r ≤ x.2.1 then x else findL r xs

theorem rcells7_len (l : List Ln) : (l.flatMap rcells7).length = l.length * 7 := by
  induction l with
  | nil => rfl
  | cons x l ih => simp only [List.flatMap_cons, List.length_append, ih, List.length_cons, rcells7, List.length_nil]; omega
theorem rcells7_at : ∀ (l : List Ln) (j i : Nat) (h : j < l.length), i < 7 → (l.flatMap rcells7)[j * 7 + i]? = (rcells7 l[j])[i]?
  | [], _, _, h, _ => by simp at h
  | x :: l, 0, i, _, hi => by
    simp only [List.flatMap_cons, Nat.zero_mul, Nat.zero_add, List.getElem_cons_zero]
    rw [List.getElem?_append_left (by simp [rcells7]; omega)]
  | x :: l, j + 1, i, h, hi => by
    have := rcells7_at l j i (by simpa using h) hi
    rw [List.flatMap_cons, List.getElem?_append_right (by simp [rcells7]; omega)]
    rw [show (j + 1) * 7 + i - (rcells7 x).length = j * 7 + i by simp [rcells7]; omega, this]
    rfl
/-- The reference's rows as they are read. -/
def RLIn (w : World) (g : Nat) (T : List Ln) : Prop := ∀ k (h : k < T.length) i, i < 7 → w.cell? ⟨g, k * 7 + i, none⟩ = (rcells7 T[k])[i]?
theorem RLIn.new (w : World) (T : List Ln) (t : TypeId) (g : Nat) (hg : g = w.heap.size) : RLIn (w.alloc (.cells (T.flatMap rcells7).toArray t)) g T := fun k hk i hi => by
  rw [cell_new _ _ _ _ _ hg, List.getElem?_toArray, rcells7_at T k i hk hi]

set_option maxHeartbeats 2000000 in
set_option maxRecDepth 100000 in
theorem rrow_0 (r : Int) (w : World) (h : r ≤ 184) : Calls Tryz.prog 96 #[.int .i64 r] w fun e w' => e = .returned (rlv (findL r (part 0))) ∧ Below w.heap.size w w' := by
  have HR := hid (fun w => rows0_any w)
  obtain ⟨T, hT⟩ : ∃ T, T = part 0 := ⟨_, rfl⟩
  have hlen : T.length ≤ 30 := by rw [hT]; unfold part; exact List.length_take_le _ _
  rw [← hT] at HR ⊢
  have HI := hid (fun w g hg => RLIn.new w T 145 g hg)
  clear hT
  generalize (T.flatMap rcells7).toArray = A at *
  go_enter Tryz.func96, Tryz.ntmps96
  go_wp2_with (go_at_call 101; refine (HR.out _).mono ?_; rintro e w1 ⟨rfl, rfl⟩)
  have HC := hid (HI.out (w.alloc (.cells #[.int .i64 0, .int .i64 0, .int .i64 0, .int .i64 0, .int .i64 0, .int .i64 0, .int .i64 0] 145)) (w.heap.size + 1) (by simp))
  go_loop [4] (fun i => ∃ k : Nat, k ≤ T.length ∧ i = .int .i64 k ∧ Hid (findL r T = findL r (T.drop k))) (fun i => T.length - (intOf i).toNat)
  case atStart => exact ⟨0, Nat.zero_le _, rfl, rfl⟩
  case round =>
    obtain ⟨k, hk, rfl, H⟩ := hrel
    by_cases hlt : k < T.length
    · have c := HC.out k hlt
      have d0 := c 0 (by omega)
      have d1 := c 1 (by omega)
      have d2 := c 2 (by omega)
      have d3 := c 3 (by omega)
      have d4 := c 4 (by omega)
      have d5 := c 5 (by omega)
      have d6 := c 6 (by omega)
      have H2 : Hid (findL r T = if T[k].1 ≤ r ∧ r ≤ T[k].2.1 then T[k] else findL r (T.drop (k + 1))) := by
        show _ = _
        rw [H.out, List.drop_eq_getElem_cons hlt]; rfl
      have b1 : (0 : Int) ≤ k ∧ (k : Int) < (T.length : Int) := by omega
      clear c H HC
      generalize T[k] = x at *
      obtain ⟨x1, x2, x3, x4, x5, x6, x7⟩ := x
      simp only [rcells7, List.getElem?_cons_zero, List.getElem?_cons_succ, Nat.add_zero] at d0 d1 d2 d3 d4 d5 d6 H2
      by_cases hx1 : x1 ≤ r
      · by_cases hx2 : r ≤ x2
        · have H3 : Hid (findL r T = (x1, x2, x3, x4, x5, x6, x7)) := by show _ = _; rw [H2.out, if_pos ⟨hx1, hx2⟩]
          go_wp2_with fail
          exact bodyPost_ret (v := rlv (x1, x2, x3, x4, x5, x6, x7)) (by simp [results, Tryz.results96, go_sem, rlv, rcells7]) rfl ⟨by rw [H3.out], ((Below.refl _ _).alloc (Nat.le_refl _) _).alloc (by simp) _⟩
        · have H3 : Hid (findL r T = findL r (T.drop (k + 1))) := by show _ = _; rw [H2.out, if_neg (fun h => hx2 h.2)]
          go_wp2_with fail
          go_round
          case rel => exact ⟨k + 1, by omega, by go_num, H3.out⟩
          case measure => simp [intOf]; omega
      · have H3 : Hid (findL r T = findL r (T.drop (k + 1))) := by show _ = _; rw [H2.out, if_neg (fun h => hx1 h.1)]
        go_wp2_with fail
        go_round
        case rel => exact ⟨k + 1, by omega, by go_num, H3.out⟩
        case measure => simp [intOf]; omega
    · have e : k = T.length := by omega
      subst e
      have H3 : Hid (findL r T = zLn) := by show _ = _; rw [H.out, List.drop_length]; rfl
      go_wp2_with fail
      exact bodyPost_ret (v := rlv zLn) (by simp [results, Tryz.results96, go_sem, rlv, rcells7, zLn]) rfl ⟨by rw [H3.out], ((Below.refl _ _).alloc (Nat.le_refl _) _).alloc (by simp) _⟩

set_option maxHeartbeats 2000000 in
set_option maxRecDepth 100000 in
theorem rrow_1 (r : Int) (w : World) (h0 : 184 < r) (h : r ≤ 819) : Calls Tryz.prog 96 #[.int .i64 r] w fun e w' => e = .returned (rlv (findL r (part 1))) ∧ Below w.heap.size w w' := by
  have HR := hid (fun w => rows1_any w)
  obtain ⟨T, hT⟩ : ∃ T, T = part 1 := ⟨_, rfl⟩
  have hlen : T.length ≤ 30 := by rw [hT]; unfold part; exact List.length_take_le _ _
  rw [← hT] at HR ⊢
  have HI := hid (fun w g hg => RLIn.new w T 145 g hg)
  clear hT
  generalize (T.flatMap rcells7).toArray = A at *
  go_enter Tryz.func96, Tryz.ntmps96
  go_wp2_with (go_at_call 102; refine (HR.out _).mono ?_; rintro e w1 ⟨rfl, rfl⟩)
  have HC := hid (HI.out (w.alloc (.cells #[.int .i64 0, .int .i64 0, .int .i64 0, .int .i64 0, .int .i64 0, .int .i64 0, .int .i64 0] 145)) (w.heap.size + 1) (by simp))
  go_loop [4] (fun i => ∃ k : Nat, k ≤ T.length ∧ i = .int .i64 k ∧ Hid (findL r T = findL r (T.drop k))) (fun i => T.length - (intOf i).toNat)
  case atStart => exact ⟨0, Nat.zero_le _, rfl, rfl⟩
  case round =>
    obtain ⟨k, hk, rfl, H⟩ := hrel
    by_cases hlt : k < T.length
    · have c := HC.out k hlt
      have d0 := c 0 (by omega)
      have d1 := c 1 (by omega)
      have d2 := c 2 (by omega)
      have d3 := c 3 (by omega)
      have d4 := c 4 (by omega)
      have d5 := c 5 (by omega)
      have d6 := c 6 (by omega)
      have H2 : Hid (findL r T = if T[k].1 ≤ r ∧ r ≤ T[k].2.1 then T[k] else findL r (T.drop (k + 1))) := by
        show _ = _
        rw [H.out, List.drop_eq_getElem_cons hlt]; rfl
      have b1 : (0 : Int) ≤ k ∧ (k : Int) < (T.length : Int) := by omega
      clear c H HC
      generalize T[k] = x at *
      obtain ⟨x1, x2, x3, x4, x5, x6, x7⟩ := x
      simp only [rcells7, List.getElem?_cons_zero, List.getElem?_cons_succ, Nat.add_zero] at d0 d1 d2 d3 d4 d5 d6 H2
      by_cases hx1 : x1 ≤ r
      · by_cases hx2 : r ≤ x2
        · have H3 : Hid (findL r T = (x1, x2, x3, x4, x5, x6, x7)) := by show _ = _; rw [H2.out, if_pos ⟨hx1, hx2⟩]
          go_wp2_with fail
          exact bodyPost_ret (v := rlv (x1, x2, x3, x4, x5, x6, x7)) (by simp [results, Tryz.results96, go_sem, rlv, rcells7]) rfl ⟨by rw [H3.out], ((Below.refl _ _).alloc (Nat.le_refl _) _).alloc (by simp) _⟩
        · have H3 : Hid (findL r T = findL r (T.drop (k + 1))) := by show _ = _; rw [H2.out, if_neg (fun h => hx2 h.2)]
          go_wp2_with fail
          go_round
          case rel => exact ⟨k + 1, by omega, by go_num, H3.out⟩
          case measure => simp [intOf]; omega
      · have H3 : Hid (findL r T = findL r (T.drop (k + 1))) := by show _ = _; rw [H2.out, if_neg (fun h => hx1 h.1)]
        go_wp2_with fail
        go_round
        case rel => exact ⟨k + 1, by omega, by go_num, H3.out⟩
        case measure => simp [intOf]; omega
    · have e : k = T.length := by omega
      subst e
      have H3 : Hid (findL r T = zLn) := by show _ = _; rw [H.out, List.drop_length]; rfl
      go_wp2_with fail
      exact bodyPost_ret (v := rlv zLn) (by simp [results, Tryz.results96, go_sem, rlv, rcells7, zLn]) rfl ⟨by rw [H3.out], ((Below.refl _ _).alloc (Nat.le_refl _) _).alloc (by simp) _⟩

set_option maxHeartbeats 2000000 in
set_option maxRecDepth 100000 in
theorem rrow_2 (r : Int) (w : World) (h0 : 819 < r) (h : r ≤ 1576) : Calls Tryz.prog 96 #[.int .i64 r] w fun e w' => e = .returned (rlv (findL r (part 2))) ∧ Below w.heap.size w w' := by
  have HR := hid (fun w => rows2_any w)
  obtain ⟨T, hT⟩ : ∃ T, T = part 2 := ⟨_, rfl⟩
  have hlen : T.length ≤ 30 := by rw [hT]; unfold part; exact List.length_take_le _ _
  rw [← hT] at HR ⊢
  have HI := hid (fun w g hg => RLIn.new w T 145 g hg)
  clear hT
  generalize (T.flatMap rcells7).toArray = A at *
  go_enter Tryz.func96, Tryz.ntmps96
  go_wp2_with (go_at_call 103; refine (HR.out _).mono ?_; rintro e w1 ⟨rfl, rfl⟩)
  have HC := hid (HI.out (w.alloc (.cells #[.int .i64 0, .int .i64 0, .int .i64 0, .int .i64 0, .int .i64 0, .int .i64 0, .int .i64 0] 145)) (w.heap.size + 1) (by simp))
  go_loop [4] (fun i => ∃ k : Nat, k ≤ T.length ∧ i = .int .i64 k ∧ Hid (findL r T = findL r (T.drop k))) (fun i => T.length - (intOf i).toNat)
  case atStart => exact ⟨0, Nat.zero_le _, rfl, rfl⟩
  case round =>
    obtain ⟨k, hk, rfl, H⟩ := hrel
    by_cases hlt : k < T.length
    · have c := HC.out k hlt
      have d0 := c 0 (by omega)
      have d1 := c 1 (by omega)
      have d2 := c 2 (by omega)
      have d3 := c 3 (by omega)
      have d4 := c 4 (by omega)
      have d5 := c 5 (by omega)
      have d6 := c 6 (by omega)
      have H2 : Hid (findL r T = if T[k].1 ≤ r ∧ r ≤ T[k].2.1 then T[k] else findL r (T.drop (k + 1))) := by
        show _ = _
        rw [H.out, List.drop_eq_getElem_cons hlt]; rfl
      have b1 : (0 : Int) ≤ k ∧ (k : Int) < (T.length : Int) := by omega
      clear c H HC
      generalize T[k] = x at *
      obtain ⟨x1, x2, x3, x4, x5, x6, x7⟩ := x
      simp only [rcells7, List.getElem?_cons_zero, List.getElem?_cons_succ, Nat.add_zero] at d0 d1 d2 d3 d4 d5 d6 H2
      by_cases hx1 : x1 ≤ r
      · by_cases hx2 : r ≤ x2
        · have H3 : Hid (findL r T = (x1, x2, x3, x4, x5, x6, x7)) := by show _ = _; rw [H2.out, if_pos ⟨hx1, hx2⟩]
          go_wp2_with fail
          exact bodyPost_ret (v := rlv (x1, x2, x3, x4, x5, x6, x7)) (by simp [results, Tryz.results96, go_sem, rlv, rcells7]) rfl ⟨by rw [H3.out], ((Below.refl _ _).alloc (Nat.le_refl _) _).alloc (by simp) _⟩
        · have H3 : Hid (findL r T = findL r (T.drop (k + 1))) := by show _ = _; rw [H2.out, if_neg (fun h => hx2 h.2)]
          go_wp2_with fail
          go_round
          case rel => exact ⟨k + 1, by omega, by go_num, H3.out⟩
          case measure => simp [intOf]; omega
      · have H3 : Hid (findL r T = findL r (T.drop (k + 1))) := by show _ = _; rw [H2.out, if_neg (fun h => hx1 h.1)]
        go_wp2_with fail
        go_round
        case rel => exact ⟨k + 1, by omega, by go_num, H3.out⟩
        case measure => simp [intOf]; omega
    · have e : k = T.length := by omega
      subst e
      have H3 : Hid (findL r T = zLn) := by show _ = _; rw [H.out, List.drop_length]; rfl
      go_wp2_with fail
      exact bodyPost_ret (v := rlv zLn) (by simp [results, Tryz.results96, go_sem, rlv, rcells7, zLn]) rfl ⟨by rw [H3.out], ((Below.refl _ _).alloc (Nat.le_refl _) _).alloc (by simp) _⟩

set_option maxHeartbeats 2000000 in
set_option maxRecDepth 100000 in
theorem rrow_3 (r : Int) (w : World) (h0 : 1576 < r) (h : r ≤ 1747) : Calls Tryz.prog 96 #[.int .i64 r] w fun e w' => e = .returned (rlv (findL r (part 3))) ∧ Below w.heap.size w w' := by
  have HR := hid (fun w => rows3_any w)
  obtain ⟨T, hT⟩ : ∃ T, T = part 3 := ⟨_, rfl⟩
  have hlen : T.length ≤ 30 := by rw [hT]; unfold part; exact List.length_take_le _ _
  rw [← hT] at HR ⊢
  have HI := hid (fun w g hg => RLIn.new w T 145 g hg)
  clear hT
  generalize (T.flatMap rcells7).toArray = A at *
  go_enter Tryz.func96, Tryz.ntmps96
  go_wp2_with (go_at_call 104; refine (HR.out _).mono ?_; rintro e w1 ⟨rfl, rfl⟩)
  have HC := hid (HI.out (w.alloc (.cells #[.int .i64 0, .int .i64 0, .int .i64 0, .int .i64 0, .int .i64 0, .int .i64 0, .int .i64 0] 145)) (w.heap.size + 1) (by simp))
  go_loop [4] (fun i => ∃ k : Nat, k ≤ T.length ∧ i = .int .i64 k ∧ Hid (findL r T = findL r (T.drop k))) (fun i => T.length - (intOf i).toNat)
  case atStart => exact ⟨0, Nat.zero_le _, rfl, rfl⟩
  case round =>
    obtain ⟨k, hk, rfl, H⟩ := hrel
    by_cases hlt : k < T.length
    · have c := HC.out k hlt
      have d0 := c 0 (by omega)
      have d1 := c 1 (by omega)
      have d2 := c 2 (by omega)
      have d3 := c 3 (by omega)
      have d4 := c 4 (by omega)
      have d5 := c 5 (by omega)
      have d6 := c 6 (by omega)
      have H2 : Hid (findL r T = if T[k].1 ≤ r ∧ r ≤ T[k].2.1 then T[k] else findL r (T.drop (k + 1))) := by
        show _ = _
        rw [H.out, List.drop_eq_getElem_cons hlt]; rfl
      have b1 : (0 : Int) ≤ k ∧ (k : Int) < (T.length : Int) := by omega
      clear c H HC
      generalize T[k] = x at *
      obtain ⟨x1, x2, x3, x4, x5, x6, x7⟩ := x
      simp only [rcells7, List.getElem?_cons_zero, List.getElem?_cons_succ, Nat.add_zero] at d0 d1 d2 d3 d4 d5 d6 H2
      by_cases hx1 : x1 ≤ r
      · by_cases hx2 : r ≤ x2
        · have H3 : Hid (findL r T = (x1, x2, x3, x4, x5, x6, x7)) := by show _ = _; rw [H2.out, if_pos ⟨hx1, hx2⟩]
          go_wp2_with fail
          exact bodyPost_ret (v := rlv (x1, x2, x3, x4, x5, x6, x7)) (by simp [results, Tryz.results96, go_sem, rlv, rcells7]) rfl ⟨by rw [H3.out], ((Below.refl _ _).alloc (Nat.le_refl _) _).alloc (by simp) _⟩
        · have H3 : Hid (findL r T = findL r (T.drop (k + 1))) := by show _ = _; rw [H2.out, if_neg (fun h => hx2 h.2)]
          go_wp2_with fail
          go_round
          case rel => exact ⟨k + 1, by omega, by go_num, H3.out⟩
          case measure => simp [intOf]; omega
      · have H3 : Hid (findL r T = findL r (T.drop (k + 1))) := by show _ = _; rw [H2.out, if_neg (fun h => hx1 h.1)]
        go_wp2_with fail
        go_round
        case rel => exact ⟨k + 1, by omega, by go_num, H3.out⟩
        case measure => simp [intOf]; omega
    · have e : k = T.length := by omega
      subst e
      have H3 : Hid (findL r T = zLn) := by show _ = _; rw [H.out, List.drop_length]; rfl
      go_wp2_with fail
      exact bodyPost_ret (v := rlv zLn) (by simp [results, Tryz.results96, go_sem, rlv, rcells7, zLn]) rfl ⟨by rw [H3.out], ((Below.refl _ _).alloc (Nat.le_refl _) _).alloc (by simp) _⟩

set_option maxHeartbeats 2000000 in
set_option maxRecDepth 100000 in
theorem rrow_4 (r : Int) (w : World) (h0 : 1747 < r) (h : r ≤ 12293) : Calls Tryz.prog 96 #[.int .i64 r] w fun e w' => e = .returned (rlv (findL r (part 4))) ∧ Below w.heap.size w w' := by
  have HR := hid (fun w => rows4_any w)
  obtain ⟨T, hT⟩ : ∃ T, T = part 4 := ⟨_, rfl⟩
  have hlen : T.length ≤ 30 := by rw [hT]; unfold part; exact List.length_take_le _ _
  rw [← hT] at HR ⊢
  have HI := hid (fun w g hg => RLIn.new w T 145 g hg)
  clear hT
  generalize (T.flatMap rcells7).toArray = A at *
  go_enter Tryz.func96, Tryz.ntmps96
  go_wp2_with (go_at_call 105; refine (HR.out _).mono ?_; rintro e w1 ⟨rfl, rfl⟩)
  have HC := hid (HI.out (w.alloc (.cells #[.int .i64 0, .int .i64 0, .int .i64 0, .int .i64 0, .int .i64 0, .int .i64 0, .int .i64 0] 145)) (w.heap.size + 1) (by simp))
  go_loop [4] (fun i => ∃ k : Nat, k ≤ T.length ∧ i = .int .i64 k ∧ Hid (findL r T = findL r (T.drop k))) (fun i => T.length - (intOf i).toNat)
  case atStart => exact ⟨0, Nat.zero_le _, rfl, rfl⟩
  case round =>
    obtain ⟨k, hk, rfl, H⟩ := hrel
    by_cases hlt : k < T.length
    · have c := HC.out k hlt
      have d0 := c 0 (by omega)
      have d1 := c 1 (by omega)
      have d2 := c 2 (by omega)
      have d3 := c 3 (by omega)
      have d4 := c 4 (by omega)
      have d5 := c 5 (by omega)
      have d6 := c 6 (by omega)
      have H2 : Hid (findL r T = if T[k].1 ≤ r ∧ r ≤ T[k].2.1 then T[k] else findL r (T.drop (k + 1))) := by
        show _ = _
        rw [H.out, List.drop_eq_getElem_cons hlt]; rfl
      have b1 : (0 : Int) ≤ k ∧ (k : Int) < (T.length : Int) := by omega
      clear c H HC
      generalize T[k] = x at *
      obtain ⟨x1, x2, x3, x4, x5, x6, x7⟩ := x
      simp only [rcells7, List.getElem?_cons_zero, List.getElem?_cons_succ, Nat.add_zero] at d0 d1 d2 d3 d4 d5 d6 H2
      by_cases hx1 : x1 ≤ r
      · by_cases hx2 : r ≤ x2
        · have H3 : Hid (findL r T = (x1, x2, x3, x4, x5, x6, x7)) := by show _ = _; rw [H2.out, if_pos ⟨hx1, hx2⟩]
          go_wp2_with fail
          exact bodyPost_ret (v := rlv (x1, x2, x3, x4, x5, x6, x7)) (by simp [results, Tryz.results96, go_sem, rlv, rcells7]) rfl ⟨by rw [H3.out], ((Below.refl _ _).alloc (Nat.le_refl _) _).alloc (by simp) _⟩
        · have H3 : Hid (findL r T = findL r (T.drop (k + 1))) := by show _ = _; rw [H2.out, if_neg (fun h => hx2 h.2)]
          go_wp2_with fail
          go_round
          case rel => exact ⟨k + 1, by omega, by go_num, H3.out⟩
          case measure => simp [intOf]; omega
      · have H3 : Hid (findL r T = findL r (T.drop (k + 1))) := by show _ = _; rw [H2.out, if_neg (fun h => hx1 h.1)]
        go_wp2_with fail
        go_round
        case rel => exact ⟨k + 1, by omega, by go_num, H3.out⟩
        case measure => simp [intOf]; omega
    · have e : k = T.length := by omega
      subst e
      have H3 : Hid (findL r T = zLn) := by show _ = _; rw [H.out, List.drop_length]; rfl
      go_wp2_with fail
      exact bodyPost_ret (v := rlv zLn) (by simp [results, Tryz.results96, go_sem, rlv, rcells7, zLn]) rfl ⟨by rw [H3.out], ((Below.refl _ _).alloc (Nat.le_refl _) _).alloc (by simp) _⟩

set_option maxHeartbeats 2000000 in
set_option maxRecDepth 100000 in
theorem rrow_5 (r : Int) (w : World) (h0 : 12293 < r) (h : r ≤ 128591) : Calls Tryz.prog 96 #[.int .i64 r] w fun e w' => e = .returned (rlv (findL r (part 5))) ∧ Below w.heap.size w w' := by
  have HR := hid (fun w => rows5_any w)
  obtain ⟨T, hT⟩ : ∃ T, T = part 5 := ⟨_, rfl⟩
  have hlen : T.length ≤ 30 := by rw [hT]; unfold part; exact List.length_take_le _ _
  rw [← hT] at HR ⊢
  have HI := hid (fun w g hg => RLIn.new w T 145 g hg)
  clear hT
  generalize (T.flatMap rcells7).toArray = A at *
  go_enter Tryz.func96, Tryz.ntmps96
  go_wp2_with (go_at_call 106; refine (HR.out _).mono ?_; rintro e w1 ⟨rfl, rfl⟩)
  have HC := hid (HI.out (w.alloc (.cells #[.int .i64 0, .int .i64 0, .int .i64 0, .int .i64 0, .int .i64 0, .int .i64 0, .int .i64 0] 145)) (w.heap.size + 1) (by simp))
  go_loop [4] (fun i => ∃ k : Nat, k ≤ T.length ∧ i = .int .i64 k ∧ Hid (findL r T = findL r (T.drop k))) (fun i => T.length - (intOf i).toNat)
  case atStart => exact ⟨0, Nat.zero_le _, rfl, rfl⟩
  case round =>
    obtain ⟨k, hk, rfl, H⟩ := hrel
    by_cases hlt : k < T.length
    · have c := HC.out k hlt
      have d0 := c 0 (by omega)
      have d1 := c 1 (by omega)
      have d2 := c 2 (by omega)
      have d3 := c 3 (by omega)
      have d4 := c 4 (by omega)
      have d5 := c 5 (by omega)
      have d6 := c 6 (by omega)
      have H2 : Hid (findL r T = if T[k].1 ≤ r ∧ r ≤ T[k].2.1 then T[k] else findL r (T.drop (k + 1))) := by
        show _ = _
        rw [H.out, List.drop_eq_getElem_cons hlt]; rfl
      have b1 : (0 : Int) ≤ k ∧ (k : Int) < (T.length : Int) := by omega
      clear c H HC
      generalize T[k] = x at *
      obtain ⟨x1, x2, x3, x4, x5, x6, x7⟩ := x
      simp only [rcells7, List.getElem?_cons_zero, List.getElem?_cons_succ, Nat.add_zero] at d0 d1 d2 d3 d4 d5 d6 H2
      by_cases hx1 : x1 ≤ r
      · by_cases hx2 : r ≤ x2
        · have H3 : Hid (findL r T = (x1, x2, x3, x4, x5, x6, x7)) := by show _ = _; rw [H2.out, if_pos ⟨hx1, hx2⟩]
          go_wp2_with fail
          exact bodyPost_ret (v := rlv (x1, x2, x3, x4, x5, x6, x7)) (by simp [results, Tryz.results96, go_sem, rlv, rcells7]) rfl ⟨by rw [H3.out], ((Below.refl _ _).alloc (Nat.le_refl _) _).alloc (by simp) _⟩
        · have H3 : Hid (findL r T = findL r (T.drop (k + 1))) := by show _ = _; rw [H2.out, if_neg (fun h => hx2 h.2)]
          go_wp2_with fail
          go_round
          case rel => exact ⟨k + 1, by omega, by go_num, H3.out⟩
          case measure => simp [intOf]; omega
      · have H3 : Hid (findL r T = findL r (T.drop (k + 1))) := by show _ = _; rw [H2.out, if_neg (fun h => hx1 h.1)]
        go_wp2_with fail
        go_round
        case rel => exact ⟨k + 1, by omega, by go_num, H3.out⟩
        case measure => simp [intOf]; omega
    · have e : k = T.length := by omega
      subst e
      have H3 : Hid (findL r T = zLn) := by show _ = _; rw [H.out, List.drop_length]; rfl
      go_wp2_with fail
      exact bodyPost_ret (v := rlv zLn) (by simp [results, Tryz.results96, go_sem, rlv, rcells7, zLn]) rfl ⟨by rw [H3.out], ((Below.refl _ _).alloc (Nat.le_refl _) _).alloc (by simp) _⟩

set_option maxHeartbeats 2000000 in
set_option maxRecDepth 100000 in
theorem rrow_6 (r : Int) (w : World) (h0 : 128591 < r) (h : r ≤ 1114109) : Calls Tryz.prog 96 #[.int .i64 r] w fun e w' => e = .returned (rlv (findL r (part 6))) ∧ Below w.heap.size w w' := by
  have HR := hid (fun w => rows6_any w)
  obtain ⟨T, hT⟩ : ∃ T, T = part 6 := ⟨_, rfl⟩
  have hlen : T.length ≤ 30 := by rw [hT]; unfold part; exact List.length_take_le _ _
  rw [← hT] at HR ⊢
  have HI := hid (fun w g hg => RLIn.new w T 145 g hg)
  clear hT
  generalize (T.flatMap rcells7).toArray = A at *
  go_enter Tryz.func96, Tryz.ntmps96
  go_wp2_with (go_at_call 107; refine (HR.out _).mono ?_; rintro e w1 ⟨rfl, rfl⟩)
  have HC := hid (HI.out (w.alloc (.cells #[.int .i64 0, .int .i64 0, .int .i64 0, .int .i64 0, .int .i64 0, .int .i64 0, .int .i64 0] 145)) (w.heap.size + 1) (by simp))
  go_loop [4] (fun i => ∃ k : Nat, k ≤ T.length ∧ i = .int .i64 k ∧ Hid (findL r T = findL r (T.drop k))) (fun i => T.length - (intOf i).toNat)
  case atStart => exact ⟨0, Nat.zero_le _, rfl, rfl⟩
  case round =>
    obtain ⟨k, hk, rfl, H⟩ := hrel
    by_cases hlt : k < T.length
    · have c := HC.out k hlt
      have d0 := c 0 (by omega)
      have d1 := c 1 (by omega)
      have d2 := c 2 (by omega)
      have d3 := c 3 (by omega)
      have d4 := c 4 (by omega)
      have d5 := c 5 (by omega)
      have d6 := c 6 (by omega)
      have H2 : Hid (findL r T = if T[k].1 ≤ r ∧ r ≤ T[k].2.1 then T[k] else findL r (T.drop (k + 1))) := by
        show _ = _
        rw [H.out, List.drop_eq_getElem_cons hlt]; rfl
      have b1 : (0 : Int) ≤ k ∧ (k : Int) < (T.length : Int) := by omega
      clear c H HC
      generalize T[k] = x at *
      obtain ⟨x1, x2, x3, x4, x5, x6, x7⟩ := x
      simp only [rcells7, List.getElem?_cons_zero, List.getElem?_cons_succ, Nat.add_zero] at d0 d1 d2 d3 d4 d5 d6 H2
      by_cases hx1 : x1 ≤ r
      · by_cases hx2 : r ≤ x2
        · have H3 : Hid (findL r T = (x1, x2, x3, x4, x5, x6, x7)) := by show _ = _; rw [H2.out, if_pos ⟨hx1, hx2⟩]
          go_wp2_with fail
          exact bodyPost_ret (v := rlv (x1, x2, x3, x4, x5, x6, x7)) (by simp [results, Tryz.results96, go_sem, rlv, rcells7]) rfl ⟨by rw [H3.out], ((Below.refl _ _).alloc (Nat.le_refl _) _).alloc (by simp) _⟩
        · have H3 : Hid (findL r T = findL r (T.drop (k + 1))) := by show _ = _; rw [H2.out, if_neg (fun h => hx2 h.2)]
          go_wp2_with fail
          go_round
          case rel => exact ⟨k + 1, by omega, by go_num, H3.out⟩
          case measure => simp [intOf]; omega
      · have H3 : Hid (findL r T = findL r (T.drop (k + 1))) := by show _ = _; rw [H2.out, if_neg (fun h => hx1 h.1)]
        go_wp2_with fail
        go_round
        case rel => exact ⟨k + 1, by omega, by go_num, H3.out⟩
        case measure => simp [intOf]; omega
    · have e : k = T.length := by omega
      subst e
      have H3 : Hid (findL r T = zLn) := by show _ = _; rw [H.out, List.drop_length]; rfl
      go_wp2_with fail
      exact bodyPost_ret (v := rlv zLn) (by simp [results, Tryz.results96, go_sem, rlv, rcells7, zLn]) rfl ⟨by rw [H3.out], ((Below.refl _ _).alloc (Nat.le_refl _) _).alloc (by simp) _⟩

set_option maxHeartbeats 2000000 in
set_option maxRecDepth 100000 in
theorem rrow_no (r : Int) (w : World) (h : 1114109 < r) : Calls Tryz.prog 96 #[.int .i64 r] w fun e w' => e = .returned (rlv zLn) ∧ Below w.heap.size w w' := by
  go_enter Tryz.func96, Tryz.ntmps96
  go_wp2_with fail
  go_loop [4] (fun i => i = .int .i64 0) (fun _ => 0)
  case atStart => rfl
  case round =>
    subst hrel
    go_wp2_with fail
    exact bodyPost_ret (v := rlv zLn) (by simp [results, Tryz.results96, go_sem, rlv, rcells7, zLn]) rfl ⟨rfl, (Below.refl _ _).alloc (Nat.le_refl _) _⟩

/-- The row that the reference tells of a code point. -/
def rrowP (r : Int) : Ln :=
  if r ≤ 184 then findL r (part 0) else if r ≤ 819 then findL r (part 1) else if r ≤ 1576 then findL r (part 2) else if r ≤ 1747 then findL r (part 3) else if r ≤ 12293 then findL r (part 4) else if r ≤ 128591 then findL r (part 5) else if r ≤ 1114109 then findL r (part 6) else zLn

theorem rrow_any (r : Int) (w : World) : Calls Tryz.prog 96 #[.int .i64 r] w fun e w' => e = .returned (rlv (rrowP r)) ∧ Below w.heap.size w w' := by
  unfold rrowP
  split
  · exact rrow_0 r w ‹_›
  split
  · exact rrow_1 r w (by omega) ‹_›
  split
  · exact rrow_2 r w (by omega) ‹_›
  split
  · exact rrow_3 r w (by omega) ‹_›
  split
  · exact rrow_4 r w (by omega) ‹_›
  split
  · exact rrow_5 r w (by omega) ‹_›
  split
  · exact rrow_6 r w (by omega) ‹_›
  · exact rrow_no r w (by omega)

end Go.Proofs.YtemdmalcoemhnabGreat.Uc
