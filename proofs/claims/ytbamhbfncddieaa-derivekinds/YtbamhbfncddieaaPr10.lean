import Derived.Test.YtbamhbfncddieaaPr9
namespace Go.Proofs.Ytbamhbfncddieaa.Pr
open Go.RowKit Go.Lib
theorem run_index_agg {P : Program} (w : World) (t e : TypeId) (n : Nat) (ty : TypeInfo) (cs : Array Value) (k : IntKind) (i : Nat) (ht : P.underlying t = some (.array n e)) (hi : P.info? e = some ty) (h : i < n) :
    (Instr.index t (.agg cs) (.int k (i : Int))).run P w = (part e cs (i * ty.size)).run P w := by
  simp [Instr.index, asIntOf, run_underlying ht, sizeOf, typeInfo, hi]
  intro hn
  omega

theorem c4_len (l : List S4) : (l.flatMap c4).length = l.length * 4 := by
  induction l with
  | nil => rfl
  | cons x l ih => simp only [List.flatMap_cons, List.length_append, ih, List.length_cons, c4, List.length_nil]; omega
theorem c4_cut : ∀ (l : List S4) (k : Nat) (h : k < l.length), ((l.flatMap c4).drop (k * 4)).take 4 = c4 l[k]
  | [], _, h => by simp at h
  | x :: l, 0, _ => by simp [c4]
  | x :: l, k + 1, h => by
    have ih := c4_cut l k (by simpa using h)
    rw [List.flatMap_cons, List.drop_append, show (k + 1) * 4 - (c4 x).length = k * 4 by simp [c4]; omega, List.drop_of_length_le (by simp [c4]; omega), List.nil_append]
    exact ih

theorem index_span (w : World) (k : Nat) (h : k < 27) (h' : k < spanT.length) : (Instr.index 80 (.agg spC) (.int .i64 (k : Int))).run Try.prog w = .ok (.agg #[.int .i32 spanT[k].1, .int .i32 spanT[k].2.1, .int .i32 spanT[k].2.2.1, .int .i32 spanT[k].2.2.2]) w := by
  have hs : (Try.prog.info? 79).map (fun i => i.size) = some 4 := by kernel_rfl
  obtain ⟨i, hi, hz⟩ := Option.map_eq_some_iff.1 hs
  rw [run_index_agg w 80 79 27 i spC .i64 k Try.underlying80 hi h, hz]
  have e : spC.extract (k * 4) (k * 4 + 4) = #[.int .i32 spanT[k].1, .int .i32 spanT[k].2.1, .int .i32 spanT[k].2.2.1, .int .i32 spanT[k].2.2.2] := by
    apply Array.ext'
    rw [Array.toList_extract, List.extract]
    show ((spanT.flatMap c4).drop (k * 4)).take (k * 4 + 4 - k * 4) = _
    rw [show k * 4 + 4 - k * 4 = 4 by omega, c4_cut spanT k h']
    rfl
  simp [part, isAgg, run_underlying Try.underlying79, sizeOf, typeInfo, hi, hz, e]

theorem index_kana (w : World) (k : Nat) (h : k < 58) (h' : k < kanaT.length) : (Instr.index 84 (.agg kaC) (.int .i32 (k : Int))).run Try.prog w = .ok (.int .i32 kanaT[k]) w := by
  have hs : (Try.prog.info? 21).map (fun i => i.size) = some 1 := by kernel_rfl
  obtain ⟨i, hi, hz⟩ := Option.map_eq_some_iff.1 hs
  rw [run_index_agg w 84 21 58 i kaC .i32 k Try.underlying84 hi h, hz, Nat.mul_one]
  have e : kaC[k]? = some (.int .i32 kanaT[k]) := by
    unfold kaC
    simp [h']
  simp [part, isAgg, run_underlying Try.underlying21, e]
/-- In lower case. -/
def lowP (r : Int) : List S4 → Int
  | [] => r
  | x :: xs => if x.1 ≤ r ∧ r ≤ x.2.1 ∧ (r - x.1) % x.2.2.1 = 0 then r + x.2.2.2 else lowP r xs
/-- In its usual width. -/
def widP (r : Int) : Int :=
  if 65281 ≤ r ∧ r ≤ 65374 then r - 65281 + 33 else if r = 65377 then 12290 else if r = 65381 then 12539 else if 65382 ≤ r ∧ r ≤ 65439 then kanaT.getD (r - 65382).toNat 0 else r

def spanOk (x : S4) : Bool := decide (0 ≤ x.1 ∧ x.1 ≤ 70000 ∧ 0 ≤ x.2.1 ∧ x.2.1 ≤ 70000 ∧ 1 ≤ x.2.2.1 ∧ x.2.2.1 ≤ 2 ∧ -10000 ≤ x.2.2.2 ∧ x.2.2.2 ≤ 10000)
theorem span_all : spanT.all spanOk = true := by kernel_rfl
theorem span_bd (x : S4) (h : x ∈ spanT) : 0 ≤ x.1 ∧ x.1 ≤ 70000 ∧ 0 ≤ x.2.1 ∧ x.2.1 ≤ 70000 ∧ 1 ≤ x.2.2.1 ∧ x.2.2.1 ≤ 2 ∧ -10000 ≤ x.2.2.2 ∧ x.2.2.2 ≤ 10000 := by
  have h1 := List.all_eq_true.1 span_all x h
  unfold spanOk at h1
  have h2 := of_decide_eq_true h1
  exact h2
theorem span_len : spanT.length = 27 := rfl

set_option maxHeartbeats 4000000 in
set_option maxRecDepth 100000 in
theorem low_any (r : Int) (w : World) (hr : I32 r) : Calls Try.prog 14 #[.int .i32 r] w fun e w' => e = .returned (.int .i32 (lowP r spanT)) ∧ Below w.heap.size w w' := by
  obtain ⟨r0, r1⟩ := hr
  have HS := hid (spans_any w)
  have HI := hid index_span
  have HB0 := hid span_bd
  have HLn := hid span_len
  have h27 : spanT.length ≤ 27 := by rw [span_len]; decide
  generalize spC = A at *
  generalize spanT = T at *
  go_enter Try.func14, Try.ntmps14
  go_wp2_with fail
  refine HS.out.mono ?_
  rintro e w1 ⟨rfl, hb1⟩
  have HB1 := hid hb1
  clear hb1 HS
  go_wp2_with fail
  go_loopg [6] 27 (fun g i wr => ∃ k : Nat, k ≤ 27 ∧ g = 27 - k ∧ i = .int .i64 k ∧ Hid (lowP r T = lowP r (T.drop k)) ∧ Hid (Below w.heap.size w wr))
  case atStart => exact ⟨0, by omega, by omega, rfl, rfl, HB1.out⟩
  case round =>
    clear HB1
    obtain ⟨k, hk, hg, rfl, H, HB⟩ := hrel
    have HG := hid hg
    clear hg
    by_cases hlt : k < 27
    · have hlT : k < T.length := by have := HLn.out; omega
      have hix := fun w => HI.out w k hlt hlT
      have ⟨e0, e1, e2, e3, e4, e5, e6, e7⟩ := HB0.out T[k] (List.getElem_mem hlT)
      have H2 : Hid (lowP r T = if T[k].1 ≤ r ∧ r ≤ T[k].2.1 ∧ (r - T[k].1) % T[k].2.2.1 = 0 then r + T[k].2.2.2 else lowP r (T.drop (k + 1))) := by
        show _ = _
        rw [H.out, List.drop_eq_getElem_cons hlT]; rfl
      have HBA := hid (fun o => HB.out.alloc HB.out.size o)
      clear HI HB0 H HB
      generalize T[k] = x at *
      obtain ⟨x1, x2, x3, x4⟩ := x
      simp only at hix e0 e1 e2 e3 e4 e5 e6 e7 H2
      by_cases h1 : x1 ≤ r
      · by_cases h2 : r ≤ x2
        · by_cases h3 : (r - x1) % x3 = 0
          · have H3 : Hid (lowP r T = r + x4) := by show _ = _; rw [H2.out, if_pos ⟨h1, h2, h3⟩]
            go_wp2_with fail
            go_ret
            exact ⟨ret_int H3.out.symm, HBA.out _⟩
          · have H3 : Hid (lowP r T = lowP r (T.drop (k + 1))) := by show _ = _; rw [H2.out, if_neg (fun h => h3 h.2.2)]
            have h3' : ((r - x1) % x3 == 0) = false := by simpa using h3
            go_wp2_with fail
            go_roundg (27 - (k + 1))
            case measure => rw [HG.out]; omega
            case rel => exact ⟨k + 1, by omega, rfl, by go_num, H3.out, HBA.out _⟩
        · have H3 : Hid (lowP r T = lowP r (T.drop (k + 1))) := by show _ = _; rw [H2.out, if_neg (fun h => h2 h.2.1)]
          go_wp2_with fail
          go_roundg (27 - (k + 1))
          case measure => rw [HG.out]; omega
          case rel => exact ⟨k + 1, by omega, rfl, by go_num, H3.out, HBA.out _⟩
      · have H3 : Hid (lowP r T = lowP r (T.drop (k + 1))) := by show _ = _; rw [H2.out, if_neg (fun h => h1 h.1)]
        go_wp2_with fail
        go_roundg (27 - (k + 1))
        case measure => rw [HG.out]; omega
        case rel => exact ⟨k + 1, by omega, rfl, by go_num, H3.out, HBA.out _⟩
    · have H3 : Hid (lowP r T = r) := by show _ = _; rw [H.out, List.drop_of_length_le (by omega)]; rfl
      go_wp2_with fail
      go_ret
      exact ⟨ret_int H3.out.symm, HB.out⟩

set_option maxHeartbeats 2000000 in
theorem wid_any (r : Int) (w : World) (hr : I32 r) : Calls Try.prog 16 #[.int .i32 r] w fun e w' => e = .returned (.int .i32 (widP r)) ∧ Below w.heap.size w w' := by
  obtain ⟨r0, r1⟩ := hr
  have HK := hid (kana_any w)
  have hok := Ok.start w
  by_cases h1 : 65281 ≤ r ∧ r ≤ 65374
  · have H : Hid (widP r = r - 65281 + 33) := if_pos h1
    obtain ⟨h1, h2⟩ := h1
    go_enter Try.func16, Try.ntmps16
    go_wp2_with fail
    go_ret
    exact ⟨ret_int H.out.symm, hok.1⟩
  by_cases h2 : r = 65377
  · have H : Hid (widP r = 12290) := by subst h2; rfl
    clear h1
    subst h2
    go_enter Try.func16, Try.ntmps16
    go_wp2_with fail
    go_ret
    exact ⟨ret_int H.out.symm, hok.1⟩
  by_cases h3 : r = 65381
  · have H : Hid (widP r = 12539) := by subst h3; rfl
    clear h1 h2
    subst h3
    go_enter Try.func16, Try.ntmps16
    go_wp2_with fail
    go_ret
    exact ⟨ret_int H.out.symm, hok.1⟩
  by_cases h4 : 65382 ≤ r ∧ r ≤ 65439
  · obtain ⟨k, hk⟩ : ∃ k : Nat, r - 65382 = k := ⟨(r - 65382).toNat, by omega⟩
    have hk1 : k < 58 := by omega
    have hk2 : k < kanaT.length := hk1
    have H : Hid (widP r = kanaT[k]) := by
      show widP r = _
      unfold widP
      rw [if_neg h1, if_neg h2, if_neg h3, if_pos h4, hk, Int.toNat_natCast, List.getD_eq_getElem?_getD, List.getElem?_eq_getElem hk2]; rfl
    have hix := fun w => index_kana w k hk1 hk2
    obtain ⟨h5, h6⟩ := h4
    have h7 : ¬ r ≤ 65374 := by omega
    have h8 : 65281 ≤ r := by omega
    clear h1
    generalize kanaT[k] = v at *
    generalize kaC = A at *
    go_enter Try.func16, Try.ntmps16
    go_wp2_with (go_at_call 40; refine HK.out.mono ?_; rintro e w1 ⟨rfl, hb1⟩; replace hok := hok.step hb1; clear hb1)
    go_ret
    exact ⟨ret_int H.out.symm, hok.1⟩
  · have H : Hid (widP r = r) := by show widP r = r; unfold widP; rw [if_neg h1, if_neg h2, if_neg h3, if_neg h4]
    have hc : r < 65281 ∨ (65281 ≤ r ∧ 65374 < r ∧ r < 65382) ∨ (65382 ≤ r ∧ 65439 < r) := by omega
    have h2' : (r == 65377) = false := by simpa using h2
    have h3' : (r == 65381) = false := by simpa using h3
    clear h1 h4
    rcases hc with h | ⟨h, h', h''⟩ | ⟨h, h'⟩
    all_goals
      go_enter Try.func16, Try.ntmps16
      go_wp2_with fail
      go_ret
      exact ⟨ret_int H.out.symm, hok.1⟩
end Go.Proofs.Ytbamhbfncddieaa.Pr
