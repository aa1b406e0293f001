import Derived.Test.YtbamhbfncddieaaUcd10x13
namespace Go.Proofs.Ytbamhbfncddieaa.Uc
open Go.RowKit

def lineOk (x : Ln) : Bool := decide (0 ≤ x.1 ∧ x.1 ≤ 1114111 ∧ 0 ≤ x.2.1 ∧ x.2.1 ≤ 1114111)
def rowOk (x : SRow Tr) : Bool := decide (0 ≤ x.f ∧ x.f ≤ 1114111 ∧ 0 ≤ x.t ∧ x.t ≤ 1114111)
set_option maxRecDepth 1000000 in
theorem all_ok : allT.all lineOk = true := by kernel_rfl
set_option maxRecDepth 1000000 in
theorem asg_ok : (asgP allT).all rowOk = true := by kernel_rfl
set_option maxRecDepth 1000000 in
theorem asg_len : Nat.ble (asgP allT).length 2000 = true := by kernel_rfl

theorem asg_le2 : (asgP allT).length ≤ 2000 := by have h := Nat.le_of_ble_eq_true asg_len; exact h
theorem book_le : bookL.length ≤ 4096 := by have h := Nat.le_of_ble_eq_true book_len; exact h
theorem all_bd : ∀ x ∈ allT, 0 ≤ x.1 ∧ x.1 ≤ 1114111 ∧ 0 ≤ x.2.1 ∧ x.2.1 ≤ 1114111 := fun x hx => of_decide_eq_true (List.all_eq_true.1 all_ok x hx)
theorem asg_bd : ∀ x ∈ asgP allT, 0 ≤ x.f ∧ x.f ≤ 1114111 ∧ 0 ≤ x.t ∧ x.t ≤ 1114111 := fun x hx => of_decide_eq_true (List.all_eq_true.1 asg_ok x hx)

set_option maxHeartbeats 1000000 in
theorem new_any (w : World) : Calls Try.prog 11 #[] w fun e w' => ∃ b p rv, e = .returned (.pointer (some ⟨b, 0, none⟩)) ∧ Below w.heap.size w w' ∧ Book w' b bookL p rv := by
  have hok := Ok.start w
  have HL := hid (lines_any w)
  have HA0 := hid (fun (w : World) (g cap : Nat) (h : LIn w g allT) => asg_any (cap := cap) h (Nat.le_trans asg_le2 (by decide)) (by have := all_len.2; omega) all_bd)
  have HF0 := hid (fun (w : World) (v : Value) (h : VIn w v (asgP allT)) => fill_any h asg_le2 asg_bd)
  have HK := hid (And.intro book_check book_le)
  have h0 := hid all_len.1
  unfold bookL at HK ⊢
  generalize fillP 0 (asgP allT) = L at *
  generalize asgP allT = A at *
  generalize allT = T at *
  go_enter Try.func11, Try.ntmps11
  go_wp2_with fail
  refine HL.out.mono ?_
  rintro e w1 ⟨v1, rfl, ho1, hb1⟩
  obtain ⟨g1, cap1, rfl, hin⟩ := lin_of_own ho1 h0.out
  replace hok := hok.step hb1
  have HA := hid (HA0.out _ _ cap1 hin)
  clear HL hin ho1 hb1
  go_wp2_with fail
  refine HA.out.mono ?_
  rintro e w2 ⟨v2, rfl, hW2⟩
  replace hok := hok.step hW2.bel
  have HF := hid (HF0.out _ _ (vin_of_own hW2.own))
  clear HA hW2
  go_wp2_with fail
  refine HF.out.mono ?_
  rintro e w3 ⟨v3, rfl, ho3, hb3⟩
  replace hok := hok.step hb3
  obtain ⟨ao3, cap3, rfl⟩ := own_slice ho3
  have HV : Hid (VIn w3 (.slice ao3 L.length cap3) L) := vin_of_own ho3
  have HB := hid (build_any (l := L) HV.out (by unfold maxLen; have := HK.out.2; omega) zTr)
  simp only [trv, zTr] at HB
  clear HF ho3 hb3 HA0 HF0
  go_wp2_with fail
  refine HB.out.mono ?_
  rintro e w4 ⟨hb4, hh⟩
  rcases hh with ⟨hn, _⟩ | ⟨_, p, _, rfl, ht⟩
  · exact absurd HK.out.1 hn
  have HT := hid ht
  have HV4 := hid (HV.out.step hb4)
  replace hok := hok.step hb4
  clear hb4 ht HB HV HK
  go_wp2_with fail
  go_ret
  refine ⟨_, p, .slice ao3 L.length cap3, rfl, hok.alloc.1, heap_alloc_new _ _, HT.out.step ((Below.refl _ _).alloc (Nat.le_refl _) _), HV4.out.step ((Below.refl _ _).alloc (Nat.le_refl _) _)⟩
end Go.Proofs.Ytbamhbfncddieaa.Uc

namespace Go.Proofs.Ytbamhbfncddieaa.Uc
open Go.RowKit

/-- Runes as they are read. -/
def RunesIn (w : World) (a : Option Addr) (zs : List Int) : Prop := ∀ k (h : k < zs.length), ∃ b off, a = some ⟨b, off, none⟩ ∧ b < w.heap.size ∧ w.cell? ⟨b, off + k, none⟩ = some (.int .i32 zs[k])

/-- What P6.2 says of what a code point has. -/
def markB (x : Tr) : Bool := (x.d == 0 || x.a == 5) && (!(x.a == 0) || (x.d == 0 && x.b == 0 && x.c == 0 && x.e == 0))

theorem at_cons {α : Type} (z : α) (x : SRow α) (l : List (SRow α)) (r : Int) : at' z (x :: l) r = at' (if x.f ≤ r ∧ r ≤ x.t then x.v else z) l r := rfl

theorem at_or (P : Tr → Bool) (r : Int) : ∀ (l : List (SRow Tr)) (z : Tr), P z = true → l.all (fun x => P x.v) = true → P (at' z l r) = true
  | [], _, hz, _ => hz
  | x :: l, z, hz, h => by
    rw [List.all_cons, Bool.and_eq_true] at h
    rw [at_cons]
    refine at_or P r l _ ?_ h.2
    split
    · exact h.1
    · exact hz

theorem get_or (P : Tr → Bool) (l : List (SRow Tr)) (z : Tr) (r : Int) (hz : P z = true) (h : l.all (fun x => P x.v) = true) : P (getV z l r) = true := by
  unfold getV
  split
  · exact hz
  · exact at_or P r l z hz h

set_option maxRecDepth 1000000 in
theorem book_marks : bookL.all (fun x => markB x.v) = true := by kernel_rfl

theorem marks_facts (r : Int) : markB (getV zTr bookL r) = true := get_or markB bookL zTr r (by decide) book_marks
end Go.Proofs.Ytbamhbfncddieaa.Uc

namespace Go.Proofs.Ytbamhbfncddieaa.Uc
open Go.RowKit

def zLn : Ln := (0, 0, 0, 0, 0, 0, 0)
/-- The first row that holds a code point. -/
def findL (r : Int) : List Ln → Ln
  | [] => zLn
  | x :: xs => if x.1 ≤ r ∧ r ≤ x.2.1 then x else findL r xs

theorem rcells7_len (l : List Ln) : (l.flatMap rcells7).length = l.length * 7 := by
  induction l with
  | nil => rfl
  | cons x l ih => simp only [List.flatMap_cons, List.length_append, ih, List.length_cons, rcells7, List.length_nil]; omega
theorem rcells7_at : ∀ (l : List Ln) (j i : Nat) (h : j < l.length), i < 7 → (l.flatMap rcells7)[j * 7 + i]? = (rcells7 l[j])[i]?
  | [], _, _, h, _ => by simp at h
  | x :: l, 0, i, _, hi => by
    simp only [List.flatMap_cons, Nat.zero_mul, Nat.zero_add, List.getElem_cons_zero]
    rw [List.getElem?_append_left (by simp [rcells7]; omega)]
  | x :: l, j + 1, i, h, hi => by
    have := rcells7_at l j i (by simpa using h) hi
    rw [List.flatMap_cons, List.getElem?_append_right (by simp [rcells7]; omega)]
    rw [show (j + 1) * 7 + i - (rcells7 x).length = j * 7 + i by simp [rcells7]; omega, this]
    rfl
/-- The reference's rows as they are read. -/
def RLIn (w : World) (g : Nat) (T : List Ln) : Prop := ∀ k (h : k < T.length) i, i < 7 → w.cell? ⟨g, k * 7 + i, none⟩ = (rcells7 T[k])[i]?
theorem RLIn.new (w : World) (T : List Ln) (t : TypeId) (g : Nat) (hg : g = w.heap.size) : RLIn (w.alloc (.cells (T.flatMap rcells7).toArray t)) g T := fun k hk i hi => by
  rw [cell_new _ _ _ _ _ hg, List.getElem?_toArray, rcells7_at T k i hk hi]

set_option maxHeartbeats 2000000 in
set_option maxRecDepth 100000 in
theorem rrow_0 (r : Int) (w : World) (h : r ≤ 184) : Calls Try.prog 74 #[.int .i64 r] w fun e w' => e = .returned (rlv (findL r (part 0))) ∧ Below w.heap.size w w' := by
  have HR := hid (fun w => rows0_any w)
  obtain ⟨T, hT⟩ : ∃ T, T = part 0 := ⟨_, rfl⟩
  have hlen : T.length ≤ 30 := by rw [hT]; unfold part; exact List.length_take_le _ _
  rw [← hT] at HR ⊢
  have HI := hid (fun w g hg => RLIn.new w T 118 g hg)
  clear hT
  generalize (T.flatMap rcells7).toArray = A at *
  go_enter Try.func74, Try.ntmps74
  go_wp2_with (go_at_call 86; refine (HR.out _).mono ?_; rintro e w1 ⟨rfl, rfl⟩)
  have HC := hid (HI.out (w.alloc (.cells #[.int .i64 0, .int .i64 0, .int .i64 0, .int .i64 0, .int .i64 0, .int .i64 0, .int .i64 0] 118)) (w.heap.size + 1) (by simp))
  go_loop [4] (fun i => ∃ k : Nat, k ≤ T.length ∧ i = .int .i64 k ∧ Hid (findL r T = findL r (T.drop k))) (fun i => T.length - (intOf i).toNat)
  case atStart => exact ⟨0, Nat.zero_le _, rfl, rfl⟩
  case round =>
    obtain ⟨k, hk, rfl, H⟩ := hrel
    by_cases hlt : k < T.length
    · have c := HC.out k hlt
      have d0 := c 0 (by omega)
      have d1 := c 1 (by omega)
      have d2 := c 2 (by omega)
      have d3 := c 3 (by omega)
      have d4 := c 4 (by omega)
      have d5 := c 5 (by omega)
      have d6 := c 6 (by omega)
      have H2 : Hid (findL r T = if T[k].1 ≤ r ∧ r ≤ T[k].2.1 then T[k] else findL r (T.drop (k + 1))) := by
        show _ = _
        rw [H.out, List.drop_eq_getElem_cons hlt]; rfl
      have b1 : (0 : Int) ≤ k ∧ (k : Int) < (T.length : Int) := by omega
      clear c H HC
      generalize T[k] = x at *
      obtain ⟨x1, x2, x3, x4, x5, x6, x7⟩ := x
      simp only [rcells7, List.getElem?_cons_zero, List.getElem?_cons_succ, Nat.add_zero] at d0 d1 d2 d3 d4 d5 d6 H2
      by_cases hx1 : x1 ≤ r
      · by_cases hx2 : r ≤ x2
        · have H3 : Hid (findL r T = (x1, x2, x3, x4, x5, x6, x7)) := by show _ = _; rw [H2.out, if_pos ⟨hx1, hx2⟩]
          go_wp2_with fail
          exact bodyPost_ret (v := rlv (x1, x2, x3, x4, x5, x6, x7)) (by simp [results, Try.results74, go_sem, rlv, rcells7]) rfl ⟨by rw [H3.out], ((Below.refl _ _).alloc (Nat.le_refl _) _).alloc (by simp) _⟩
        · have H3 : Hid (findL r T = findL r (T.drop (k + 1))) := by show _ = _; rw [H2.out, if_neg (fun h => hx2 h.2)]
          go_wp2_with fail
          go_round
          case rel => exact ⟨k + 1, by omega, by go_num, H3.out⟩
          case measure => simp [intOf]; omega
      · have H3 : Hid (findL r T = findL r (T.drop (k + 1))) := by show _ = _; rw [H2.out, if_neg (fun h => hx1 h.1)]
        go_wp2_with fail
        go_round
        case rel => exact ⟨k + 1, by omega, by go_num, H3.out⟩
        case measure => simp [intOf]; omega
    · have e : k = T.length := by omega
      subst e
      have H3 : Hid (findL r T = zLn) := by show _ = _; rw [H.out, List.drop_length]; rfl
      go_wp2_with fail
      exact bodyPost_ret (v := rlv zLn) (by simp [results, Try.results74, go_sem, rlv, rcells7, zLn]) rfl ⟨by rw [H3.out], ((Below.refl _ _).alloc (Nat.le_refl _) _).alloc (by simp) _⟩

set_option maxHeartbeats 2000000 in
set_option maxRecDepth 100000 in
theorem rrow_1 (r : Int) (w : World) (h0 : 184 < r) (h : r ≤ 819) : Calls Try.prog 74 #[.int .i64 r] w fun e w' => e = .returned (rlv (findL r (part 1))) ∧ Below w.heap.size w w' := by
  have HR := hid (fun w => rows1_any w)
  obtain ⟨T, hT⟩ : ∃ T, T = part 1 := ⟨_, rfl⟩
  have hlen : T.length ≤ 30 := by rw [hT]; unfold part; exact List.length_take_le _ _
  rw [← hT] at HR ⊢
  have HI := hid (fun w g hg => RLIn.new w T 118 g hg)
  clear hT
  generalize (T.flatMap rcells7).toArray = A at *
  go_enter Try.func74, Try.ntmps74
  go_wp2_with (go_at_call 87; refine (HR.out _).mono ?_; rintro e w1 ⟨rfl, rfl⟩)
  have HC := hid (HI.out (w.alloc (.cells #[.int .i64 0, .int .i64 0, .int .i64 0, .int .i64 0, .int .i64 0, .int .i64 0, .int .i64 0] 118)) (w.heap.size + 1) (by simp))
  go_loop [4] (fun i => ∃ k : Nat, k ≤ T.length ∧ i = .int .i64 k ∧ Hid (findL r T = findL r (T.drop k))) (fun i => T.length - (intOf i).toNat)
  case atStart => exact ⟨0, Nat.zero_le _, rfl, rfl⟩
  case round =>
    obtain ⟨k, hk, rfl, H⟩ := hrel
    by_cases hlt : k < T.length
    · have c := HC.out k hlt
      have d0 := c 0 (by omega)
      have d1 := c 1 (by omega)
      have d2 := c 2 (by omega)
      have d3 := c 3 (by omega)
      have d4 := c 4 (by omega)
      have d5 := c 5 (by omega)
      have d6 := c 6 (by omega)
      have H2 : Hid (findL r T = if T[k].1 ≤ r ∧ r ≤ T[k].2.1 then T[k] else findL r (T.drop (k + 1))) := by
        show _ = _
        rw [H.out, List.drop_eq_getElem_cons hlt]; rfl
      have b1 : (0 : Int) ≤ k ∧ (k : Int) < (T.length : Int) := by omega
      clear c H HC
      generalize T[k] = x at *
      obtain ⟨x1, x2, x3, x4, x5, x6, x7⟩ := x
      simp only [rcells7, List.getElem?_cons_zero, List.getElem?_cons_succ, Nat.add_zero] at d0 d1 d2 d3 d4 d5 d6 H2
      by_cases hx1 : x1 ≤ r
      · by_cases hx2 : r ≤ x2
        · have H3 : Hid (findL r T = (x1, x2, x3, x4, x5, x6, x7)) := by show _ = _; rw [H2.out, if_pos ⟨hx1, hx2⟩]
          go_wp2_with fail
          exact bodyPost_ret (v := rlv (x1, x2, x3, x4, x5, x6, x7)) (by simp [results, Try.results74, go_sem, rlv, rcells7]) rfl ⟨by rw [H3.out], ((Below.refl _ _).alloc (Nat.le_refl _) _).alloc (by simp) _⟩
        · have H3 : Hid (findL r T = findL r (T.drop (k + 1))) := by show _ = _; rw [H2.out, if_neg (fun h => hx2 h.2)]
          go_wp2_with fail
          go_round
          case rel => exact ⟨k + 1, by omega, by go_num, H3.out⟩
          case measure => simp [intOf]; omega
      · have H3 : Hid (findL r T = findL r (T.drop (k + 1))) := by show _ = _; rw [H2.out, if_neg (fun h => hx1 h.1)]
        go_wp2_with fail
        go_round
        case rel => exact ⟨k + 1, by omega, by go_num, H3.out⟩
        case measure => simp [intOf]; omega
    · have e : k = T.length := by omega
      subst e
      have H3 : Hid (findL r T = zLn) := by show _ = _; rw [H.out, List.drop_length]; rfl
      go_wp2_with fail
      exact bodyPost_ret (v := rlv zLn) (by simp [results, Try.results74, go_sem, rlv, rcells7, zLn]) rfl ⟨by rw [H3.out], ((Below.refl _ _).alloc (Nat.le_refl _) _).alloc (by simp) _⟩

set_option maxHeartbeats 2000000 in
set_option maxRecDepth 100000 in
theorem rrow_2 (r : Int) (w : World) (h0 : 819 < r) (h : r ≤ 1576) : Calls Try.prog 74 #[.int .i64 r] w fun e w' => e = .returned (rlv (findL r (part 2))) ∧ Below w.heap.size w w' := by
  have HR := hid (fun w => rows2_any w)
  obtain ⟨T, hT⟩ : ∃ T, T = part 2 := ⟨_, rfl⟩
  have hlen : T.length ≤ 30 := by rw [hT]; unfold part; exact List.length_take_le _ _
  rw [← hT] at HR ⊢
  have HI := hid (fun w g hg => RLIn.new w T 118 g hg)
  clear hT
  generalize (T.flatMap rcells7).toArray = A at *
  go_enter Try.func74, Try.ntmps74
  go_wp2_with (go_at_call 88; refine (HR.out _).mono ?_; rintro e w1 ⟨rfl, rfl⟩)
  have HC := hid (HI.out (w.alloc (.cells #[.int .i64 0, .int .i64 0, .int .i64 0, .int .i64 0, .int .i64 0, .int .i64 0, .int .i64 0] 118)) (w.heap.size + 1) (by simp))
  go_loop [4] (fun i => ∃ k : Nat, k ≤ T.length ∧ i = .int .i64 k ∧ Hid (findL r T = findL r (T.drop k))) (fun i => T.length - (intOf i).toNat)
  case atStart => exact ⟨0, Nat.zero_le _, rfl, rfl⟩
  case round =>
    obtain ⟨k, hk, rfl, H⟩ := hrel
    by_cases hlt : k < T.length
    · have c := HC.out k hlt
      have d0 := c 0 (by omega)
      have d1 := c 1 (by omega)
      have d2 := c 2 (by omega)
      have d3 := c 3 (by omega)
      have d4 := c 4 (by omega)
      have d5 := c 5 (by omega)
      have d6 := c 6 (by omega)
      have H2 : Hid (findL r T = if T[k].1 ≤ r ∧ r ≤ T[k].2.1 then T[k] else findL r (T.drop (k + 1))) := by
        show _ = _
        rw [H.out, List.drop_eq_getElem_cons hlt]; rfl
      have b1 : (0 : Int) ≤ k ∧ (k : Int) < (T.length : Int) := by omega
      clear c H HC
      generalize T[k] = x at *
      obtain ⟨x1, x2, x3, x4, x5, x6, x7⟩ := x
      simp only [rcells7, List.getElem?_cons_zero, List.getElem?_cons_succ, Nat.add_zero] at d0 d1 d2 d3 d4 d5 d6 H2
      by_cases hx1 : x1 ≤ r
      · by_cases hx2 : r ≤ x2
        · have H3 : Hid (findL r T = (x1, x2, x3, x4, x5, x6, x7)) := by show _ = _; rw [H2.out, if_pos ⟨hx1, hx2⟩]
          go_wp2_with fail
          exact bodyPost_ret (v := rlv (x1, x2, x3, x4, x5, x6, x7)) (by simp [results, Try.results74, go_sem, rlv, rcells7]) rfl ⟨by rw [H3.out], ((Below.refl _ _).alloc (Nat.le_refl _) _).alloc (by simp) _⟩
        · have H3 : Hid (findL r T = findL r (T.drop (k + 1))) := by show _ = _; rw [H2.out, if_neg (fun h => hx2 h.2)]
          go_wp2_with fail
          go_round
          case rel => exact ⟨k + 1, by omega, by go_num, H3.out⟩
          case measure => simp [intOf]; omega
      · have H3 : Hid (findL r T = findL r (T.drop (k + 1))) := by show _ = _; rw [H2.out, if_neg (fun h => hx1 h.1)]
        go_wp2_with fail
        go_round
        case rel => exact ⟨k + 1, by omega, by go_num, H3.out⟩
        case measure => simp [intOf]; omega
    · have e : k = T.length := by omega
      subst e
      have H3 : Hid (findL r T = zLn) := by show _ = _; rw [H.out, List.drop_length]; rfl
      go_wp2_with fail
      exact bodyPost_ret (v := rlv zLn) (by simp [results, Try.results74, go_sem, rlv, rcells7, zLn]) rfl ⟨by rw [H3.out], ((Below.refl _ _).alloc (Nat.le_refl _) _).alloc (by simp) _⟩

set_option maxHeartbeats 2000000 in
set_option maxRecDepth 100000 in
theorem rrow_3 (r : Int) (w : World) (h0 : 1576 < r) (h : r ≤ 1747) : Calls Try.prog 74 #[.int .i64 r] w fun e w' => e = .returned (rlv (findL r (part 3))) ∧ Below w.heap.size w w' := by
  have HR := hid (fun w => rows3_any w)
  obtain ⟨T, hT⟩ : ∃ T, T = part 3 := ⟨_, rfl⟩
  have hlen : T.length ≤ 30 := by rw [hT]; unfold part; exact List.length_take_le _ _
  rw [← hT] at HR ⊢
  have HI := hid (fun w g hg => RLIn.new w T 118 g hg)
  clear hT
  generalize (T.flatMap rcells7).toArray = A at *
  go_enter Try.func74, Try.ntmps74
  go_wp2_with (go_at_call 89; refine (HR.out _).mono ?_; rintro e w1 ⟨rfl, rfl⟩)
  have HC := hid (HI.out (w.alloc (.cells #[.int .i64 0, .int .i64 0, .int .i64 0, .int .i64 0, .int .i64 0, .int .i64 0, .int .i64 0] 118)) (w.heap.size + 1) (by simp))
  go_loop [4] (fun i => ∃ k : Nat, k ≤ T.length ∧ i = .int .i64 k ∧ Hid (findL r T = findL r (T.drop k))) (fun i => T.length - (intOf i).toNat)
  case atStart => exact ⟨0, Nat.zero_le _, rfl, rfl⟩
  case round =>
    obtain ⟨k, hk, rfl, H⟩ := hrel
    by_cases hlt : k < T.length
    · have c := HC.out k hlt
      have d0 := c 0 (by omega)
      have d1 := c 1 (by omega)
      have d2 := c 2 (by omega)
      have d3 := c 3 (by omega)
      have d4 := c 4 (by omega)
      have d5 := c 5 (by omega)
      have d6 := c 6 (by omega)
      have H2 : Hid (findL r T = if T[k].1 ≤ r ∧ r ≤ T[k].2.1 then T[k] else findL r (T.drop (k + 1))) := by
        show _ = _
        rw [H.out, List.drop_eq_getElem_cons hlt]; rfl
      have b1 : (0 : Int) ≤ k ∧ (k : Int) < (T.length : Int) := by omega
      clear c H HC
      generalize T[k] = x at *
      obtain ⟨x1, x2, x3, x4, x5, x6, x7⟩ := x
      simp only [rcells7, List.getElem?_cons_zero, List.getElem?_cons_succ, Nat.add_zero] at d0 d1 d2 d3 d4 d5 d6 H2
      by_cases hx1 : x1 ≤ r
      · by_cases hx2 : r ≤ x2
        · have H3 : Hid (findL r T = (x1, x2, x3, x4, x5, x6, x7)) := by show _ = _; rw [H2.out, if_pos ⟨hx1, hx2⟩]
          go_wp2_with fail
          exact bodyPost_ret (v := rlv (x1, x2, x3, x4, x5, x6, x7)) (by simp [results, Try.results74, go_sem, rlv, rcells7]) rfl ⟨by rw [H3.out], ((Below.refl _ _).alloc (Nat.le_refl _) _).alloc (by simp) _⟩
        · have H3 : Hid (findL r T = findL r (T.drop (k + 1))) := by show _ = _; rw [H2.out, if_neg (fun h => hx2 h.2)]
          go_wp2_with fail
          go_round
          case rel => exact ⟨k + 1, by omega, by go_num, H3.out⟩
          case measure => simp [intOf]; omega
      · have H3 : Hid (findL r T = findL r (T.drop (k + 1))) := by show _ = _; rw [H2.out, if_neg (fun h => hx1 h.1)]
        go_wp2_with fail
        go_round
        case rel => exact ⟨k + 1, by omega, by go_num, H3.out⟩
        case measure => simp [intOf]; omega
    · have e : k = T.length := by omega
      subst e
      have H3 : Hid (findL r T = zLn) := by show _ = _; rw [H.out, List.drop_length]; rfl
      go_wp2_with fail
      exact bodyPost_ret (v := rlv zLn) (by simp [results, Try.results74, go_sem, rlv, rcells7, zLn]) rfl ⟨by rw [H3.out], ((Below.refl _ _).alloc (Nat.le_refl _) _).alloc (by simp) _⟩

set_option maxHeartbeats 2000000 in
set_option maxRecDepth 100000 in
theorem rrow_4 (r : Int) (w : World) (h0 : 1747 < r) (h : r ≤ 12293) : Calls Try.prog 74 #[.int .i64 r] w fun e w' => e = .returned (rlv (findL r (part 4))) ∧ Below w.heap.size w w' := by
  have HR := hid (fun w => rows4_any w)
  obtain ⟨T, hT⟩ : ∃ T, T = part 4 := ⟨_, rfl⟩
  have hlen : T.length ≤ 30 := by rw [hT]; unfold part; exact List.length_take_le _ _
  rw [← hT] at HR ⊢
  have HI := hid (fun w g hg => RLIn.new w T 118 g hg)
  clear hT
  generalize (T.flatMap rcells7).toArray = A at *
  go_enter Try.func74, Try.ntmps74
  go_wp2_with (go_at_call 90; refine (HR.out _).mono ?_; rintro e w1 ⟨rfl, rfl⟩)
  have HC := hid (HI.out (w.alloc (.cells #[.int .i64 0, .int .i64 0, .int .i64 0, .int .i64 0, .int .i64 0, .int .i64 0, .int .i64 0] 118)) (w.heap.size + 1) (by simp))
  go_loop [4] (fun i => ∃ k : Nat, k ≤ T.length ∧ i = .int .i64 k ∧ Hid (findL r T = findL r (T.drop k))) (fun i => T.length - (intOf i).toNat)
  case atStart => exact ⟨0, Nat.zero_le _, rfl, rfl⟩
  case round =>
    obtain ⟨k, hk, rfl, H⟩ := hrel
    by_cases hlt : k < T.length
    · have c := HC.out k hlt
      have d0 := c 0 (by omega)
      have d1 := c 1 (by omega)
      have d2 := c 2 (by omega)
      have d3 := c 3 (by omega)
      have d4 := c 4 (by omega)
      have d5 := c 5 (by omega)
      have d6 := c 6 (by omega)
      have H2 : Hid (findL r T = if T[k].1 ≤ r ∧ r ≤ T[k].2.1 then T[k] else findL r (T.drop (k + 1))) := by
        show _ = _
        rw [H.out, List.drop_eq_getElem_cons hlt]; rfl
      have b1 : (0 : Int) ≤ k ∧ (k : Int) < (T.length : Int) := by omega
      clear c H HC
      generalize T[k] = x at *
      obtain ⟨x1, x2, x3, x4, x5, x6, x7⟩ := x
      simp only [rcells7, List.getElem?_cons_zero, List.getElem?_cons_succ, Nat.add_zero] at d0 d1 d2 d3 d4 d5 d6 H2
      by_cases hx1 : x1 ≤ r
      · by_cases hx2 : r ≤ x2
        · have H3 : Hid (findL r T = (x1, x2, x3, x4, x5, x6, x7)) := by show _ = _; rw [H2.out, if_pos ⟨hx1, hx2⟩]
          go_wp2_with fail
          exact bodyPost_ret (v := rlv (x1, x2, x3, x4, x5, x6, x7)) (by simp [results, Try.results74, go_sem, rlv, rcells7]) rfl ⟨by rw [H3.out], ((Below.refl _ _).alloc (Nat.le_refl _) _).alloc (by simp) _⟩
        · have H3 : Hid (findL r T = findL r (T.drop (k + 1))) := by show _ = _; rw [H2.out, if_neg (fun h => hx2 h.2)]
          go_wp2_with fail
          go_round
          case rel => exact ⟨k + 1, by omega, by go_num, H3.out⟩
          case measure => simp [intOf]; omega
      · have H3 : Hid (findL r T = findL r (T.drop (k + 1))) := by show _ = _; rw [H2.out, if_neg (fun h => hx1 h.1)]
        go_wp2_with fail
        go_round
        case rel => exact ⟨k + 1, by omega, by go_num, H3.out⟩
        case measure => simp [intOf]; omega
    · have e : k = T.length := by omega
      subst e
      have H3 : Hid (findL r T = zLn) := by show _ = _; rw [H.out, List.drop_length]; rfl
      go_wp2_with fail
      exact bodyPost_ret (v := rlv zLn) (by simp [results, Try.results74, go_sem, rlv, rcells7, zLn]) rfl ⟨by rw [H3.out], ((Below.refl _ _).alloc (Nat.le_refl _) _).alloc (by simp) _⟩

set_option maxHeartbeats 2000000 in
set_option maxRecDepth 100000 in
theorem rrow_5 (r : Int) (w : World) (h0 : 12293 < r) (h : r ≤ 128591) : Calls Try.prog 74 #[.int .i64 r] w fun e w' => e = .returned (rlv (findL r (part 5))) ∧ Below w.heap.size w w' := by
  have HR := hid (fun w => rows5_any w)
  obtain ⟨T, hT⟩ : ∃ T, T = part 5 := ⟨_, rfl⟩
  have hlen : T.length ≤ 30 := by rw [hT]; unfold part; exact List.length_take_le _ _
  rw [← hT] at HR ⊢
  have HI := hid (fun w g hg => RLIn.new w T 118 g hg)
  clear hT
  generalize (T.flatMap rcells7).toArray = A at *
  go_enter Try.func74, Try.ntmps74
  go_wp2_with (go_at_call 91; refine (HR.out _).mono ?_; rintro e w1 ⟨rfl, rfl⟩)
  have HC := hid (HI.out (w.alloc (.cells #[.int .i64 0, .int .i64 0, .int .i64 0, .int .i64 0, .int .i64 0, .int .i64 0, .int .i64 0] 118)) (w.heap.size + 1) (by simp))
  go_loop [4] (fun i => ∃ k : Nat, k ≤ T.length ∧ i = .int .i64 k ∧ Hid (findL r T = findL r (T.drop k))) (fun i => T.length - (intOf i).toNat)
  case atStart => exact ⟨0, Nat.zero_le _, rfl, rfl⟩
  case round =>
    obtain ⟨k, hk, rfl, H⟩ := hrel
    by_cases hlt : k < T.length
    · have c := HC.out k hlt
      have d0 := c 0 (by omega)
      have d1 := c 1 (by omega)
      have d2 := c 2 (by omega)
      have d3 := c 3 (by omega)
      have d4 := c 4 (by omega)
      have d5 := c 5 (by omega)
      have d6 := c 6 (by omega)
      have H2 : Hid (findL r T = if T[k].1 ≤ r ∧ r ≤ T[k].2.1 then T[k] else findL r (T.drop (k + 1))) := by
        show _ = _
        rw [H.out, List.drop_eq_getElem_cons hlt]; rfl
      have b1 : (0 : Int) ≤ k ∧ (k : Int) < (T.length : Int) := by omega
      clear c H HC
      generalize T[k] = x at *
      obtain ⟨x1, x2, x3, x4, x5, x6, x7⟩ := x
      simp only [rcells7, List.getElem?_cons_zero, List.getElem?_cons_succ, Nat.add_zero] at d0 d1 d2 d3 d4 d5 d6 H2
      by_cases hx1 : x1 ≤ r
      · by_cases hx2 : r ≤ x2
        · have H3 : Hid (findL r T = (x1, x2, x3, x4, x5, x6, x7)) := by show _ = _; rw [H2.out, if_pos ⟨hx1, hx2⟩]
          go_wp2_with fail
          exact bodyPost_ret (v := rlv (x1, x2, x3, x4, x5, x6, x7)) (by simp [results, Try.results74, go_sem, rlv, rcells7]) rfl ⟨by rw [H3.out], ((Below.refl _ _).alloc (Nat.le_refl _) _).alloc (by simp) _⟩
        · have H3 : Hid (findL r T = findL r (T.drop (k + 1))) := by show _ = _; rw [H2.out, if_neg (fun h => hx2 h.2)]
          go_wp2_with fail
          go_round
          case rel => exact ⟨k + 1, by omega, by go_num, H3.out⟩
          case measure => simp [intOf]; omega
      · have H3 : Hid (findL r T = findL r (T.drop (k + 1))) := by show _ = _; rw [H2.out, if_neg (fun h => hx1 h.1)]
        go_wp2_with fail
        go_round
        case rel => exact ⟨k + 1, by omega, by go_num, H3.out⟩
        case measure => simp [intOf]; omega
    · have e : k = T.length := by omega
      subst e
      have H3 : Hid (findL r T = zLn) := by show _ = _; rw [H.out, List.drop_length]; rfl
      go_wp2_with fail
      exact bodyPost_ret (v := rlv zLn) (by simp [results, Try.results74, go_sem, rlv, rcells7, zLn]) rfl ⟨by rw [H3.out], ((Below.refl _ _).alloc (Nat.le_refl _) _).alloc (by simp) _⟩

set_option maxHeartbeats 2000000 in
set_option maxRecDepth 100000 in
theorem rrow_6 (r : Int) (w : World) (h0 : 128591 < r) (h : r ≤ 1114109) : Calls Try.prog 74 #[.int .i64 r] w fun e w' => e = .returned (rlv (findL r (part 6))) ∧ Below w.heap.size w w' := by
  have HR := hid (fun w => rows6_any w)
  obtain ⟨T, hT⟩ : ∃ T, T = part 6 := ⟨_, rfl⟩
  have hlen : T.length ≤ 30 := by rw [hT]; unfold part; exact List.length_take_le _ _
  rw [← hT] at HR ⊢
  have HI := hid (fun w g hg => RLIn.new w T 118 g hg)
  clear hT
  generalize (T.flatMap rcells7).toArray = A at *
  go_enter Try.func74, Try.ntmps74
  go_wp2_with (go_at_call 92; refine (HR.out _).mono ?_; rintro e w1 ⟨rfl, rfl⟩)
  have HC := hid (HI.out (w.alloc (.cells #[.int .i64 0, .int .i64 0, .int .i64 0, .int .i64 0, .int .i64 0, .int .i64 0, .int .i64 0] 118)) (w.heap.size + 1) (by simp))
  go_loop [4] (fun i => ∃ k : Nat, k ≤ T.length ∧ i = .int .i64 k ∧ Hid (findL r T = findL r (T.drop k))) (fun i => T.length - (intOf i).toNat)
  case atStart => exact ⟨0, Nat.zero_le _, rfl, rfl⟩
  case round =>
    obtain ⟨k, hk, rfl, H⟩ := hrel
    by_cases hlt : k < T.length
    · have c := HC.out k hlt
      have d0 := c 0 (by omega)
      have d1 := c 1 (by omega)
      have d2 := c 2 (by omega)
      have d3 := c 3 (by omega)
      have d4 := c 4 (by omega)
      have d5 := c 5 (by omega)
      have d6 := c 6 (by omega)
      have H2 : Hid (findL r T = if T[k].1 ≤ r ∧ r ≤ T[k].2.1 then T[k] else findL r (T.drop (k + 1))) := by
        show _ = _
        rw [H.out, List.drop_eq_getElem_cons hlt]; rfl
      have b1 : (0 : Int) ≤ k ∧ (k : Int) < (T.length : Int) := by omega
      clear c H HC
      generalize T[k] = x at *
      obtain ⟨x1, x2, x3, x4, x5, x6, x7⟩ := x
      simp only [rcells7, List.getElem?_cons_zero, List.getElem?_cons_succ, Nat.add_zero] at d0 d1 d2 d3 d4 d5 d6 H2
      by_cases hx1 : x1 ≤ r
      · by_cases hx2 : r ≤ x2
        · have H3 : Hid (findL r T = (x1, x2, x3, x4, x5, x6, x7)) := by show _ = _; rw [H2.out, if_pos ⟨hx1, hx2⟩]
          go_wp2_with fail
          exact bodyPost_ret (v := rlv (x1, x2, x3, x4, x5, x6, x7)) (by simp [results, Try.results74, go_sem, rlv, rcells7]) rfl ⟨by rw [H3.out], ((Below.refl _ _).alloc (Nat.le_refl _) _).alloc (by simp) _⟩
        · have H3 : Hid (findL r T = findL r (T.drop (k + 1))) := by show _ = _; rw [H2.out, if_neg (fun h => hx2 h.2)]
          go_wp2_with fail
          go_round
          case rel => exact ⟨k + 1, by omega, by go_num, H3.out⟩
          case measure => simp [intOf]; omega
      · have H3 : Hid (findL r T = findL r (T.drop (k + 1))) := by show _ = _; rw [H2.out, if_neg (fun h => hx1 h.1)]
        go_wp2_with fail
        go_round
        case rel => exact ⟨k + 1, by omega, by go_num, H3.out⟩
        case measure => simp [intOf]; omega
    · have e : k = T.length := by omega
      subst e
      have H3 : Hid (findL r T = zLn) := by show _ = _; rw [H.out, List.drop_length]; rfl
      go_wp2_with fail
      exact bodyPost_ret (v := rlv zLn) (by simp [results, Try.results74, go_sem, rlv, rcells7, zLn]) rfl ⟨by rw [H3.out], ((Below.refl _ _).alloc (Nat.le_refl _) _).alloc (by simp) _⟩

set_option maxHeartbeats 2000000 in
set_option maxRecDepth 100000 in
theorem rrow_no (r : Int) (w : World) (h : 1114109 < r) : Calls Try.prog 74 #[.int .i64 r] w fun e w' => e = .returned (rlv zLn) ∧ Below w.heap.size w w' := by
  go_enter Try.func74, Try.ntmps74
  go_wp2_with fail
  go_loop [4] (fun i => i = .int .i64 0) (fun _ => 0)
  case atStart => rfl
  case round =>
    subst hrel
    go_wp2_with fail
    exact bodyPost_ret (v := rlv zLn) (by simp [results, Try.results74, go_sem, rlv, rcells7, zLn]) rfl ⟨rfl, (Below.refl _ _).alloc (Nat.le_refl _) _⟩

/-- The row that the reference tells of a code point. -/
def rrowP (r : Int) : Ln :=
  if r ≤ 184 then findL r (part 0) else if r ≤ 819 then findL r (part 1) else if r ≤ 1576 then findL r (part 2) else if r ≤ 1747 then findL r (part 3) else if r ≤ 12293 then findL r (part 4) else if r ≤ 128591 then findL r (part 5) else if r ≤ 1114109 then findL r (part 6) else zLn

theorem rrow_any (r : Int) (w : World) : Calls Try.prog 74 #[.int .i64 r] w fun e w' => e = .returned (rlv (rrowP r)) ∧ Below w.heap.size w w' := by
  unfold rrowP
  split
  · exact rrow_0 r w ‹_›
  split
  · exact rrow_1 r w (by omega) ‹_›
  split
  · exact rrow_2 r w (by omega) ‹_›
  split
  · exact rrow_3 r w (by omega) ‹_›
  split
  · exact rrow_4 r w (by omega) ‹_›
  split
  · exact rrow_5 r w (by omega) ‹_›
  split
  · exact rrow_6 r w (by omega) ‹_›
  · exact rrow_no r w (by omega)

end Go.Proofs.Ytbamhbfncddieaa.Uc

namespace Go.Proofs.Ytbamhbfncddieaa.Uc
open Go.RowKit

/-- What the first row with r says; else z. -/
def fstT (z : Tr) (r : Int) : List (SRow Tr) → Tr
  | [] => z
  | x :: xs => if x.f ≤ r ∧ r ≤ x.t then x.v else fstT z r xs

theorem at_low : ∀ (l : List (SRow Tr)) (a r : Int) (z : Tr), Rising a l → r ≤ a → at' z l r = z
  | [], _, _, _, _, _ => rfl
  | x :: l, a, r, z, h, hr => by
    obtain ⟨h1, h2, h3, h4⟩ := h
    rw [at_cons, if_neg (by omega)]
    exact at_low l x.t r z h4 (by omega)
theorem fst_low : ∀ (l : List (SRow Tr)) (a r : Int) (z : Tr), Rising a l → r ≤ a → fstT z r l = z
  | [], _, _, _, _, _ => rfl
  | x :: l, a, r, z, h, hr => by
    obtain ⟨h1, h2, h3, h4⟩ := h
    rw [fstT, if_neg (by omega)]
    exact fst_low l x.t r z h4 (by omega)
theorem fst_high : ∀ (l : List (SRow Tr)) (a r : Int) (z : Tr), Rising a l → 1114111 < r → fstT z r l = z
  | [], _, _, _, _, _ => rfl
  | x :: l, a, r, z, h, hr => by
    obtain ⟨h1, h2, h3, h4⟩ := h
    rw [fstT, if_neg (by omega)]
    exact fst_high l x.t r z h4 hr
theorem fst_at : ∀ (l : List (SRow Tr)) (a r : Int) (z : Tr), Rising a l → fstT z r l = at' z l r
  | [], _, _, _, _ => rfl
  | x :: l, a, r, z, h => by
    obtain ⟨h1, h2, h3, h4⟩ := h
    rw [at_cons, fstT]
    split
    · rename_i hm
      exact (at_low l x.t r _ h4 hm.2).symm
    · exact fst_at l x.t r z h4
theorem get_fst {z : Tr} {l : List (SRow Tr)} (h : Rising (-1) l) (r : Int) : getV z l r = fstT z r l := by
  unfold getV
  split
  · rename_i hr
    rcases hr with hr | hr
    · exact (fst_low l (-1) r z h (by omega)).symm
    · exact (fst_high l (-1) r z h hr).symm
  · exact (fst_at l (-1) r z h).symm

theorem book_rising : Rising (-1) bookL := by
  refine rising_of_chk bookL (-1) (by omega) ?_
  have h := book_check
  unfold check at h
  split at h
  · exact absurd h (by decide)
  · exact h
set_option maxRecDepth 1000000 in
theorem asg_chk : chk (-1) (asgP allT) = 0 := by kernel_rfl
theorem asg_rising : Rising (-1) (asgP allT) := rising_of_chk _ (-1) (by omega) asg_chk

/-- Rows in the gaps that say nothing. -/
theorem fst_fill : ∀ (l : List (SRow Tr)) (n r : Int), Rising (n - 1) l → fstT zTr r (fillP n l) = fstT zTr r l
  | [], n, r, _ => by
    unfold fillP
    split
    · simp only [fstT]; split <;> rfl
    · rfl
  | x :: l, n, r, h => by
    obtain ⟨h1, h2, h3, h4⟩ := h
    have ih := fst_fill l (x.t + 1) r (by rw [show x.t + 1 - 1 = x.t by omega]; exact h4)
    unfold fillP
    split
    · rename_i hg
      simp only [fstT]
      by_cases hm : n ≤ r ∧ r ≤ x.f - 1
      · rw [if_pos hm, if_neg (by omega)]
        exact (fst_low l x.t r zTr h4 (by omega)).symm
      · rw [if_neg hm, ih]
    · simp only [fstT]; rw [ih]

/-- What a row of the reference says of a code point. -/
def trOf (x : Ln) (r : Int) : Tr := hasP x (rkindP x r)
theorem trOf_z (r : Int) : trOf zLn r = zTr := rfl

theorem case_kind (x : Ln) (r : Int) (h0 : 0 ≤ r) (h : x.2.2.1 = 12 ∨ x.2.2.1 = 13) : caseP x r = rkindP x r := by
  unfold caseP rkindP
  have hm : r.tmod 2 = 0 ∨ r.tmod 2 = 1 := by
    rw [Int.tmod_eq_emod_of_nonneg h0]; omega
  rcases h with h | h <;> rw [h] <;> rcases hm with hm | hm <;> rw [hm] <;> simp [wrap64]

theorem fst_cases (x : Ln) (h : x.2.2.1 = 12 ∨ x.2.2.1 = 13) (l : List (SRow Tr)) (r : Int) : ∀ (n : Nat) (a : Int), 0 ≤ a → fstT zTr r (caseRows x a n ++ l) = if a ≤ r ∧ r < a + n then trOf x r else fstT zTr r l
  | 0, a, _ => by rw [if_neg (by omega)]; rfl
  | n + 1, a, ha => by
    have ih := fst_cases x h l r n (a + 1) (by omega)
    simp only [caseRows, List.cons_append, fstT]
    by_cases hr : a ≤ r ∧ r ≤ a
    · have e : r = a := by omega
      rw [if_pos hr, if_pos (by omega), e, case_kind x a ha h]; rfl
    · rw [if_neg hr, ih]
      by_cases hm : a + 1 ≤ r ∧ r < a + 1 + n
      · rw [if_pos hm, if_pos (by omega)]
      · rw [if_neg hm, if_neg (by omega)]

theorem fst_line (x : Ln) (h0 : 0 ≤ x.1) (l : List (SRow Tr)) (r : Int) : fstT zTr r (lineRows x ++ l) = if x.1 ≤ r ∧ r ≤ x.2.1 then trOf x r else fstT zTr r l := by
  unfold lineRows
  split
  · rename_i h
    simp only [List.cons_append, List.nil_append, fstT]
    have e : trOf x r = hasP x x.2.2.1 := by
      unfold trOf rkindP
      rw [if_neg h.1, if_neg h.2]
    rw [e]
  · rename_i h
    rw [fst_cases x (by omega) l r _ _ h0]
    by_cases hm : x.1 ≤ r ∧ r ≤ x.2.1
    · rw [if_pos hm, if_pos (by omega)]
    · rw [if_neg hm, if_neg (by omega)]

theorem fst_find (r : Int) : ∀ (T : List Ln), (∀ x ∈ T, 0 ≤ x.1) → fstT zTr r (asgP T) = trOf (findL r T) r
  | [], _ => rfl
  | x :: T, h => by
    have ih := fst_find r T (fun y hy => h y (List.mem_cons_of_mem _ hy))
    have e : asgP (x :: T) = lineRows x ++ asgP T := by unfold asgP; rw [List.flatMap_cons]
    rw [e, fst_line x (h x (List.mem_cons_self ..)), findL]
    split
    · rfl
    · exact ih

theorem find_left (r : Int) : ∀ (A B : List Ln), (∀ x ∈ B, r < x.1) → findL r (A ++ B) = findL r A
  | [], B, h => by
    induction B with
    | nil => rfl
    | cons x B ih =>
      have := h x (List.mem_cons_self ..)
      rw [List.nil_append]
      show (if x.1 ≤ r ∧ r ≤ x.2.1 then x else findL r B) = findL r []
      rw [if_neg (by omega)]
      exact ih (fun y hy => h y (List.mem_cons_of_mem _ hy))
  | x :: A, B, h => by
    rw [List.cons_append, findL, findL, find_left r A B h]
theorem find_right (r : Int) : ∀ (A B : List Ln), (∀ x ∈ A, x.2.1 < r) → findL r (A ++ B) = findL r B
  | [], _, _ => rfl
  | x :: A, B, h => by
    have := h x (List.mem_cons_self ..)
    rw [List.cons_append]
    show (if x.1 ≤ r ∧ r ≤ x.2.1 then x else findL r (A ++ B)) = findL r B
    rw [if_neg (by omega)]
    exact find_right r A B (fun y hy => h y (List.mem_cons_of_mem _ hy))

theorem find_cut (r : Int) (i : Nat) (T : List Ln) (lo hi : Int) (h1 : (T.take (30 * i)).all (fun x => decide (x.2.1 ≤ lo)) = true) (h2 : (T.drop (30 * i + 30)).all (fun x => decide (hi < x.1)) = true) (hl : lo < r) (hh : r ≤ hi) : findL r T = findL r ((T.drop (30 * i)).take 30) := by
  have e : T = T.take (30 * i) ++ ((T.drop (30 * i)).take 30 ++ T.drop (30 * i + 30)) := by
    rw [← List.drop_drop, List.take_append_drop, List.take_append_drop]
  conv => lhs; rw [e]
  rw [find_right r _ _ (fun x hx => by have := of_decide_eq_true (List.all_eq_true.1 h1 x hx); omega)]
  exact find_left r _ _ (fun x hx => by have := of_decide_eq_true (List.all_eq_true.1 h2 x hx); omega)

set_option maxRecDepth 1000000 in
theorem all_most : allT.all (fun x => decide (x.2.1 ≤ 1114109)) = true := by kernel_rfl

set_option maxRecDepth 1000000 in
theorem rrow_find (r : Int) : rrowP r = findL r allT := by
  unfold rrowP
  split
  · exact (find_cut r 0 allT (r - 1) 184 rfl (by kernel_rfl) (by omega) ‹_›).symm
  split
  · exact (find_cut r 1 allT 184 819 (by kernel_rfl) (by kernel_rfl) (by omega) ‹_›).symm
  split
  · exact (find_cut r 2 allT 819 1576 (by kernel_rfl) (by kernel_rfl) (by omega) ‹_›).symm
  split
  · exact (find_cut r 3 allT 1576 1747 (by kernel_rfl) (by kernel_rfl) (by omega) ‹_›).symm
  split
  · exact (find_cut r 4 allT 1747 12293 (by kernel_rfl) (by kernel_rfl) (by omega) ‹_›).symm
  split
  · exact (find_cut r 5 allT 12293 128591 (by kernel_rfl) (by kernel_rfl) (by omega) ‹_›).symm
  split
  · exact (find_cut r 6 allT 128591 1114109 (by kernel_rfl) (by kernel_rfl) (by omega) ‹_›).symm
  · rename_i h
    have := find_right r allT [] (fun x hx => by have := of_decide_eq_true (List.all_eq_true.1 all_most x hx); omega)
    rw [List.append_nil] at this
    exact this.symm

theorem book_tells (r : Int) : getV zTr bookL r = trOf (rrowP r) r := by
  rw [get_fst book_rising, rrow_find, ← fst_find r allT (fun x hx => (all_bd x hx).1)]
  exact fst_fill (asgP allT) 0 r asg_rising
end Go.Proofs.Ytbamhbfncddieaa.Uc
