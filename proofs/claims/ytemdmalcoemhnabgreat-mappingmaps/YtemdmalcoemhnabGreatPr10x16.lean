import Derived.Test.YtemdmalcoemhnabGreatPr9
import Derived.Great.CaseRows
namespace Go.Proofs.YtemdmalcoemhnabGreat.Pr
open Go.RowKit Go.Lib
theorem run_index_agg {P : Program} (w : World) (t e : TypeId) (n : Nat) (ty : TypeInfo) (cs : Array Value) (k : IntKind) (i : Nat) (ht : P.underlying t = some (.array n e)) (hi : P.info? e = some ty) (h : i < n) :
    (Instr.index t (.agg cs) (.int k (i : Int))).run P w = (part e cs (i * ty.size)).run P w := by
  simp [Instr.index, asIntOf, run_underlying ht, sizeOf, typeInfo, hi]
  intro hn
  omega

theorem c4_len (l : List S4) : (l.flatMap c4).length = l.length * 4 := by
  induction l with
  | nil => rfl
  | cons x l ih => simp only [List.flatMap_cons, List.length_append, ih, List.length_cons, c4, List.length_nil]; omega
theorem c4_cut : ∀ (l : List S4) (k : Nat) (h : k < l.length), ((l.flatMap c4).drop (k * 4)).take 4 = c4 l[k]
  | [], _, h => by simp at h
  | x :: l, 0, _ => by simp [c4]
  | x :: l, k + 1, h => by
    have ih := c4_cut l k (by simpa using h)
    rw [List.flatMap_cons, List.drop_append, show (k + 1) * 4 - (c4 x).length = k * 4 by simp [c4]; omega, List.drop_of_length_le (by simp [c4]; omega), List.nil_append]
    exact ih

theorem index_span (w : World) (k : Nat) (h : k < 27) (h' : k < spanT.length) : (Instr.index 93 (.agg spC) (.int .i64 (k : Int))).run Tryz.prog w = .ok (.agg #[.int .i32 spanT[k].1, .int .i32 spanT[k].2.1, .int .i32 spanT[k].2.2.1, .int .i32 spanT[k].2.2.2]) w := by
  have hs : (Tryz.prog.info? 92).map (fun i => i.size) = some 4 := by kernel_rfl
  obtain ⟨i, hi, hz⟩ := Option.map_eq_some_iff.1 hs
  rw [run_index_agg w 93 92 27 i spC .i64 k Tryz.underlying93 hi h, hz]
  have e : spC.extract (k * 4) (k * 4 + 4) = #[.int .i32 spanT[k].1, .int .i32 spanT[k].2.1, .int .i32 spanT[k].2.2.1, .int .i32 spanT[k].2.2.2] := by
    apply Array.ext'
    rw [Array.toList_extract, List.extract]
    show ((spanT.flatMap c4).drop (k * 4)).take (k * 4 + 4 - k * 4) = _
    rw [show k * 4 + 4 - k * 4 = 4 by omega, c4_cut spanT k h']
    rfl
  simp [part, isAgg, run_underlying Tryz.underlying92, sizeOf, typeInfo, hi, hz, e]

theorem index_kana (w : World) (k : Nat) (h : k < 58) (h' : k < kanaT.length) : (Instr.index 95 (.agg kaC) (.int .i32 (k : Int))).run Tryz.prog w = .ok (.int .i32 kanaT[k]) w := by
  have hs : (Tryz.prog.info? 21).map (fun i => i.size) = some 1 := by kernel_rfl
  obtain ⟨i, hi, hz⟩ := Option.map_eq_some_iff.1 hs
  rw [run_index_agg w 95 21 58 i kaC .i32 k Tryz.underlying95 hi h, hz, Nat.mul_one]
  have e : kaC[k]? = some (.int .i32 kanaT[k]) := by
    unfold kaC
    simp [h']
  simp [part, isAgg, run_underlying Tryz.underlying21, e]
theorem index_rkana (w : World) (k : Nat) (h : k < 58) (h' : k < kanaT.length) : (Instr.index 97 (.agg rkaC) (.int .i64 (k : Int))).run Tryz.prog w = .ok (.int .i64 kanaT[k]) w := by
  have hs : (Tryz.prog.info? 3).map (fun i => i.size) = some 1 := by kernel_rfl
  obtain ⟨i, hi, hz⟩ := Option.map_eq_some_iff.1 hs
  rw [run_index_agg w 97 3 58 i rkaC .i64 k Tryz.underlying97 hi h, hz, Nat.mul_one]
  have e : rkaC[k]? = some (.int .i64 kanaT[k]) := by
    unfold rkaC
    simp [h']
  simp [part, isAgg, run_underlying Tryz.underlying3, e]

/-- In lower case. -/
def lowP (r : Int) : List S4 → Int
  | [] => r
  | x :: xs => if x.1 ≤ r ∧ r ≤ x.2.1 ∧ (r - x.1) % x.2.2.1 = 0 then r + x.2.2.2 else lowP r xs
/-- In its usual width. -/
def widP (r : Int) : Int :=
  if 65281 ≤ r ∧ r ≤ 65374 then r - 65281 + 33 else if r = 65377 then 12290 else if r = 65381 then 12539 else if 65382 ≤ r ∧ r ≤ 65439 then kanaT.getD (r - 65382).toNat 0 else r

def spanOk (x : S4) : Bool := decide (0 ≤ x.1 ∧ x.1 ≤ 70000 ∧ 0 ≤ x.2.1 ∧ x.2.1 ≤ 70000 ∧ 1 ≤ x.2.2.1 ∧ x.2.2.1 ≤ 2 ∧ -10000 ≤ x.2.2.2 ∧ x.2.2.2 ≤ 10000)
theorem span_all : spanT.all spanOk = true := by kernel_rfl
theorem span_bd (x : S4) (h : x ∈ spanT) : 0 ≤ x.1 ∧ x.1 ≤ 70000 ∧ 0 ≤ x.2.1 ∧ x.2.1 ≤ 70000 ∧ 1 ≤ x.2.2.1 ∧ x.2.2.1 ≤ 2 ∧ -10000 ≤ x.2.2.2 ∧ x.2.2.2 ≤ 10000 := by
  have h1 := List.all_eq_true.1 span_all x h
  unfold spanOk at h1
  have h2 := of_decide_eq_true h1
  exact h2
theorem span_len : spanT.length = 27 := rfl

set_option maxHeartbeats 4000000 in
set_option maxRecDepth 100000 in
theorem low_any (r : Int) (w : World) (hr : I32 r) : Calls Tryz.prog 21 #[.int .i32 r] w fun e w' => e = .returned (.int .i32 (lowP r spanT)) ∧ Below w.heap.size w w' := by
  obtain ⟨r0, r1⟩ := hr
  have HS := hid (spans_any w)
  have HI := hid index_span
  have HB0 := hid span_bd
  have HLn := hid span_len
  have h27 : spanT.length ≤ 27 := by rw [span_len]; decide
  generalize spC = A at *
  generalize spanT = T at *
  go_enter Tryz.func21, Tryz.ntmps21
  go_wp2_with fail
  refine HS.out.mono ?_
  rintro e w1 ⟨rfl, hb1⟩
  have HB1 := hid hb1
  clear hb1 HS
  go_wp2_with fail
  go_loopg [6] 27 (fun g i wr => ∃ k : Nat, k ≤ 27 ∧ g = 27 - k ∧ i = .int .i64 k ∧ Hid (lowP r T = lowP r (T.drop k)) ∧ Hid (Below w.heap.size w wr))
  case atStart => exact ⟨0, by omega, by omega, rfl, rfl, HB1.out⟩
  case round =>
    clear HB1
    obtain ⟨k, hk, hg, rfl, H, HB⟩ := hrel
    have HG := hid hg
    clear hg
    by_cases hlt : k < 27
    · have hlT : k < T.length := by have := HLn.out; omega
      have hix := fun w => HI.out w k hlt hlT
      have ⟨e0, e1, e2, e3, e4, e5, e6, e7⟩ := HB0.out T[k] (List.getElem_mem hlT)
      have H2 : Hid (lowP r T = if T[k].1 ≤ r ∧ r ≤ T[k].2.1 ∧ (r - T[k].1) % T[k].2.2.1 = 0 then r + T[k].2.2.2 else lowP r (T.drop (k + 1))) := by
        show _ = _
        rw [H.out, List.drop_eq_getElem_cons hlT]; rfl
      have HBA := hid (fun o => HB.out.alloc HB.out.size o)
      clear HI HB0 H HB
      generalize T[k] = x at *
      obtain ⟨x1, x2, x3, x4⟩ := x
      simp only at hix e0 e1 e2 e3 e4 e5 e6 e7 H2
      by_cases h1 : x1 ≤ r
      · by_cases h2 : r ≤ x2
        · by_cases h3 : (r - x1) % x3 = 0
          · have H3 : Hid (lowP r T = r + x4) := by show _ = _; rw [H2.out, if_pos ⟨h1, h2, h3⟩]
            go_wp2_with fail
            go_ret
            exact ⟨ret_int H3.out.symm, HBA.out _⟩
          · have H3 : Hid (lowP r T = lowP r (T.drop (k + 1))) := by show _ = _; rw [H2.out, if_neg (fun h => h3 h.2.2)]
            have h3' : ((r - x1) % x3 == 0) = false := by simpa using h3
            go_wp2_with fail
            go_roundg (27 - (k + 1))
            case measure => rw [HG.out]; omega
            case rel => exact ⟨k + 1, by omega, rfl, by go_num, H3.out, HBA.out _⟩
        · have H3 : Hid (lowP r T = lowP r (T.drop (k + 1))) := by show _ = _; rw [H2.out, if_neg (fun h => h2 h.2.1)]
          go_wp2_with fail
          go_roundg (27 - (k + 1))
          case measure => rw [HG.out]; omega
          case rel => exact ⟨k + 1, by omega, rfl, by go_num, H3.out, HBA.out _⟩
      · have H3 : Hid (lowP r T = lowP r (T.drop (k + 1))) := by show _ = _; rw [H2.out, if_neg (fun h => h1 h.1)]
        go_wp2_with fail
        go_roundg (27 - (k + 1))
        case measure => rw [HG.out]; omega
        case rel => exact ⟨k + 1, by omega, rfl, by go_num, H3.out, HBA.out _⟩
    · have H3 : Hid (lowP r T = r) := by show _ = _; rw [H.out, List.drop_of_length_le (by omega)]; rfl
      go_wp2_with fail
      go_ret
      exact ⟨ret_int H3.out.symm, HB.out⟩

set_option maxHeartbeats 2000000 in
theorem wid_any (r : Int) (w : World) (hr : I32 r) : Calls Tryz.prog 22 #[.int .i32 r] w fun e w' => e = .returned (.int .i32 (widP r)) ∧ Below w.heap.size w w' := by
  obtain ⟨r0, r1⟩ := hr
  have HK := hid (kana_any w)
  have hok := Ok.start w
  by_cases h1 : 65281 ≤ r ∧ r ≤ 65374
  · have H : Hid (widP r = r - 65281 + 33) := if_pos h1
    obtain ⟨h1, h2⟩ := h1
    go_enter Tryz.func22, Tryz.ntmps22
    go_wp2_with fail
    go_ret
    exact ⟨ret_int H.out.symm, hok.1⟩
  by_cases h2 : r = 65377
  · have H : Hid (widP r = 12290) := by subst h2; rfl
    clear h1
    subst h2
    go_enter Tryz.func22, Tryz.ntmps22
    go_wp2_with fail
    go_ret
    exact ⟨ret_int H.out.symm, hok.1⟩
  by_cases h3 : r = 65381
  · have H : Hid (widP r = 12539) := by subst h3; rfl
    clear h1 h2
    subst h3
    go_enter Tryz.func22, Tryz.ntmps22
    go_wp2_with fail
    go_ret
    exact ⟨ret_int H.out.symm, hok.1⟩
  by_cases h4 : 65382 ≤ r ∧ r ≤ 65439
  · obtain ⟨k, hk⟩ : ∃ k : Nat, r - 65382 = k := ⟨(r - 65382).toNat, by omega⟩
    have hk1 : k < 58 := by omega
    have hk2 : k < kanaT.length := hk1
    have H : Hid (widP r = kanaT[k]) := by
      show widP r = _
      unfold widP
      rw [if_neg h1, if_neg h2, if_neg h3, if_pos h4, hk, Int.toNat_natCast, List.getD_eq_getElem?_getD, List.getElem?_eq_getElem hk2]; rfl
    have hix := fun w => index_kana w k hk1 hk2
    obtain ⟨h5, h6⟩ := h4
    have h7 : ¬ r ≤ 65374 := by omega
    have h8 : 65281 ≤ r := by omega
    clear h1
    generalize kanaT[k] = v at *
    generalize kaC = A at *
    go_enter Tryz.func22, Tryz.ntmps22
    go_wp2_with (go_at_call 43; refine HK.out.mono ?_; rintro e w1 ⟨rfl, hb1⟩; replace hok := hok.step hb1; clear hb1)
    go_ret
    exact ⟨ret_int H.out.symm, hok.1⟩
  · have H : Hid (widP r = r) := by show widP r = r; unfold widP; rw [if_neg h1, if_neg h2, if_neg h3, if_neg h4]
    have hc : r < 65281 ∨ (65281 ≤ r ∧ 65374 < r ∧ r < 65382) ∨ (65382 ≤ r ∧ 65439 < r) := by omega
    have h2' : (r == 65377) = false := by simpa using h2
    have h3' : (r == 65381) = false := by simpa using h3
    clear h1 h4
    rcases hc with h | ⟨h, h', h''⟩ | ⟨h, h'⟩
    all_goals
      go_enter Tryz.func22, Tryz.ntmps22
      go_wp2_with fail
      go_ret
      exact ⟨ret_int H.out.symm, hok.1⟩
end Go.Proofs.YtemdmalcoemhnabGreat.Pr

namespace Go.Proofs.YtemdmalcoemhnabGreat.Pr
open Go.RowKit Go.Lib
theorem rc4_at : ∀ (l : List S4) (j i : Nat) (h : j < l.length), i < 4 → (l.flatMap rc4)[j * 4 + i]? = (rc4 l[j])[i]?
  | [], _, _, h, _ => by simp at h
  | x :: l, 0, i, _, hi => by
    simp only [List.flatMap_cons, Nat.zero_mul, Nat.zero_add, List.getElem_cons_zero]
    rw [List.getElem?_append_left (by simp [rc4]; omega)]
  | x :: l, j + 1, i, h, hi => by
    have := rc4_at l j i (by simpa using h) hi
    rw [List.flatMap_cons, List.getElem?_append_right (by simp [rc4]; omega)]
    rw [show (j + 1) * 4 + i - (rc4 x).length = j * 4 + i by simp [rc4]; omega, this]
    rfl
theorem cell_new (w : World) (cs : Array Value) (t : TypeId) (b j : Nat) (hb : b = w.heap.size) : (w.alloc (.cells cs t)).cell? ⟨b, j, none⟩ = cs[j]? := by
  have h := heap_alloc_new w (.cells cs t)
  subst hb
  unfold World.cell?
  rw [h]; rfl
theorem shift_cells (w : World) (t : TypeId) (k : Nat) (hk : k < spanT.length) (i : Nat) (hi : i < 4) : (w.alloc (.cells rspC t)).cell? ⟨w.heap.size, k * 4 + i, none⟩ = (rc4 spanT[k])[i]? := by
  rw [cell_new _ _ _ _ _ rfl, rspC, List.getElem?_toArray, rc4_at spanT k i hk hi]

set_option maxHeartbeats 4000000 in
set_option maxRecDepth 100000 in
theorem rlow_any (r : Int) (w : World) (hr : I32 r) : Calls Tryz.prog 26 #[.int .i64 r] w fun e w' => e = .returned (.int .i64 (lowP r spanT)) ∧ Below w.heap.size w w' := by
  obtain ⟨r0, r1⟩ := hr
  have HS := hid (shifts_any w)
  have HI := hid (fun (w : World) (k : Nat) (hk : k < spanT.length) (i : Nat) (hi : i < 4) => shift_cells w 100 k hk i hi)
  have HB0 := hid span_bd
  have HLn := hid span_len
  have h27 : spanT.length ≤ 27 := by rw [span_len]; decide
  have hz := zero_rsp
  have HSt : Hid ((Tryz.prog.info? 100).map (·.size) = some rspC.size ∧ (z64 108).size = rspC.size ∧ rspC.all (·.oneCell') = true) := ⟨by kernel_rfl, by kernel_rfl, by kernel_rfl⟩
  generalize rspC = A at *
  generalize spanT = T at *
  go_enter Tryz.func26, Tryz.ntmps26
  go_wp2_with fail
  refine HS.out.mono ?_
  rintro e w1 ⟨rfl, hb1⟩
  have HB1 := hid (fun o => hb1.alloc hb1.size o)
  clear hb1 HS
  go_wp2_with (refine wpList_store_row rfl 100 (.tmp 3) (.tmp 5) rfl w1.heap.size A (by exact rfl) (by exact rfl) 100 (z64 108) (heap_alloc_new w1 _) HSt.out.1 HSt.out.2.1 HSt.out.2.2 ?_; rw [setRow_new])
  have HC := hid (HI.out w1)
  have HBW := hid (HB1.out (.cells A 100))
  have HLb : Hid (w1.heap.size < (w1.alloc (.cells A 100)).heap.size) := by show _ < _; simp
  clear HI HB1 hz
  generalize w1.alloc (.cells A 100) = W2 at *
  generalize w1.heap.size = lb at *
  go_loopg [4] 27 (fun g i wr => ∃ k : Nat, k ≤ 27 ∧ g = 27 - k ∧ i = .int .i64 k ∧ Hid (lowP r T = lowP r (T.drop k)) ∧ Hid (Below W2.heap.size W2 wr))
  case atStart => exact ⟨0, by omega, by omega, rfl, rfl, Below.refl _ _⟩
  case round =>
    obtain ⟨k, hk, hg, rfl, H, HB⟩ := hrel
    have HG := hid hg
    clear hg
    have HBE := hid (fun n => bel_dn (HBW.out.trans (HB.out.mono HBW.out.size)) n)
    have HBN := hid (fun n => bel_dn HB.out n)
    by_cases hlt : k < 27
    · have hlT : k < T.length := by have := HLn.out; omega
      have c := fun i hi => (HB.out.cell (p := ⟨lb, k * 4 + i, none⟩) HLb.out).trans (HC.out k hlT i hi)
      have d0 := c 0 (by omega)
      have d1 := c 1 (by omega)
      have d2 := c 2 (by omega)
      have d3 := c 3 (by omega)
      have ⟨e0, e1, e2, e3, e4, e5, e6, e7⟩ := HB0.out T[k] (List.getElem_mem hlT)
      have H2 : Hid (lowP r T = if T[k].1 ≤ r ∧ r ≤ T[k].2.1 ∧ (r - T[k].1) % T[k].2.2.1 = 0 then r + T[k].2.2.2 else lowP r (T.drop (k + 1))) := by
        show _ = _
        rw [H.out, List.drop_eq_getElem_cons hlT]; rfl
      have b1 : (0 : Int) ≤ k ∧ (k : Int) < 27 := by omega
      clear c HC HB0 H HB
      generalize T[k] = x at *
      obtain ⟨x1, x2, x3, x4⟩ := x
      simp only [rc4, List.getElem?_cons_zero, List.getElem?_cons_succ, Nat.add_zero] at d0 d1 d2 d3 e0 e1 e2 e3 e4 e5 e6 e7 H2
      have hx3 : ¬ x3 = 0 := by omega
      by_cases h1 : x1 ≤ r
      · by_cases h2 : r ≤ x2
        · have q1 : IntKind.i64.wrap (r - x1) = r - x1 := by rw [IntKind.wrap_i64]; omega
          have q0 : 0 ≤ r - x1 := by omega
          have q2 : (r - x1).tmod x3 = (r - x1) % x3 := Int.tmod_eq_emod_of_nonneg q0
          have q3 : IntKind.i64.wrap ((r - x1) % x3) = (r - x1) % x3 := by
            have := Int.emod_nonneg (r - x1) (show x3 ≠ 0 by omega)
            have := Int.emod_lt_of_pos (r - x1) (show 0 < x3 by omega)
            rw [IntKind.wrap_i64]; omega
          have t1 : decide (x1 ≤ r) = true := decide_eq_true h1
          have t2 : decide (r ≤ x2) = true := decide_eq_true h2
          by_cases h3 : (r - x1) % x3 = 0
          · have H3 : Hid (lowP r T = r + x4) := by show _ = _; rw [H2.out, if_pos ⟨h1, h2, h3⟩]
            go_wp2_with fail
            go_quiet (fail)
            go_wp2_with fail
            go_ret
            exact ⟨ret_int H3.out.symm, HBE.out _⟩
          · have H3 : Hid (lowP r T = lowP r (T.drop (k + 1))) := by show _ = _; rw [H2.out, if_neg (fun h => h3 h.2.2)]
            have h3' : ((r - x1) % x3 == 0) = false := by simpa using h3
            go_wp2_with fail
            go_quiet (fail)
            go_wp2_with fail
            go_roundg (27 - (k + 1))
            case measure => rw [HG.out]; omega
            case rel => exact ⟨k + 1, by omega, rfl, by go_num, H3.out, HBN.out _⟩
        · have H3 : Hid (lowP r T = lowP r (T.drop (k + 1))) := by show _ = _; rw [H2.out, if_neg (fun h => h2 h.2.1)]
          have t1 : decide (x1 ≤ r) = true := decide_eq_true h1
          have t2 : decide (r ≤ x2) = false := decide_eq_false h2
          go_wp2_with fail
          go_quiet (fail)
          go_wp2_with fail
          go_roundg (27 - (k + 1))
          case measure => rw [HG.out]; omega
          case rel => exact ⟨k + 1, by omega, rfl, by go_num, H3.out, HBN.out _⟩
      · have H3 : Hid (lowP r T = lowP r (T.drop (k + 1))) := by show _ = _; rw [H2.out, if_neg (fun h => h1 h.1)]
        have t1 : decide (x1 ≤ r) = false := decide_eq_false h1
        go_wp2_with fail
        go_quiet (fail)
        go_wp2_with fail
        go_roundg (27 - (k + 1))
        case measure => rw [HG.out]; omega
        case rel => exact ⟨k + 1, by omega, rfl, by go_num, H3.out, HBN.out _⟩
    · have H3 : Hid (lowP r T = r) := by show _ = _; rw [H.out, List.drop_of_length_le (by omega)]; rfl
      go_wp2_with fail
      go_ret
      exact ⟨ret_int H3.out.symm, HBE.out 0⟩

set_option maxHeartbeats 2000000 in
theorem rwid_any (r : Int) (w : World) (hr : I32 r) : Calls Tryz.prog 25 #[.int .i64 r] w fun e w' => e = .returned (.int .i64 (widP r)) ∧ Below w.heap.size w w' := by
  obtain ⟨r0, r1⟩ := hr
  have HK := hid (rkana_any w)
  have hok := Ok.start w
  by_cases h1 : 65281 ≤ r ∧ r ≤ 65374
  · have H : Hid (widP r = r - 65281 + 33) := if_pos h1
    obtain ⟨h1, h2⟩ := h1
    go_enter Tryz.func25, Tryz.ntmps25
    go_wp2_with fail
    go_ret
    exact ⟨ret_int H.out.symm, hok.1⟩
  by_cases h2 : r = 65377
  · have H : Hid (widP r = 12290) := by subst h2; rfl
    clear h1
    subst h2
    go_enter Tryz.func25, Tryz.ntmps25
    go_wp2_with fail
    go_ret
    exact ⟨ret_int H.out.symm, hok.1⟩
  by_cases h3 : r = 65381
  · have H : Hid (widP r = 12539) := by subst h3; rfl
    clear h1 h2
    subst h3
    go_enter Tryz.func25, Tryz.ntmps25
    go_wp2_with fail
    go_ret
    exact ⟨ret_int H.out.symm, hok.1⟩
  by_cases h4 : 65382 ≤ r ∧ r ≤ 65439
  · obtain ⟨k, hk⟩ : ∃ k : Nat, r - 65382 = k := ⟨(r - 65382).toNat, by omega⟩
    have hk1 : k < 58 := by omega
    have hk2 : k < kanaT.length := hk1
    have H : Hid (widP r = kanaT[k]) := by
      show widP r = _
      unfold widP
      rw [if_neg h1, if_neg h2, if_neg h3, if_pos h4, hk, Int.toNat_natCast, List.getD_eq_getElem?_getD, List.getElem?_eq_getElem hk2]; rfl
    have hix := fun w => index_rkana w k hk1 hk2
    obtain ⟨h5, h6⟩ := h4
    have h7 : ¬ r ≤ 65374 := by omega
    have h8 : 65281 ≤ r := by omega
    clear h1
    generalize kanaT[k] = v at *
    generalize rkaC = A at *
    go_enter Tryz.func25, Tryz.ntmps25
    go_wp2_with (go_at_call 46; refine HK.out.mono ?_; rintro e w1 ⟨rfl, hb1⟩; replace hok := hok.step hb1; clear hb1)
    go_ret
    exact ⟨ret_int H.out.symm, hok.1⟩
  · have H : Hid (widP r = r) := by show widP r = r; unfold widP; rw [if_neg h1, if_neg h2, if_neg h3, if_neg h4]
    have hc : r < 65281 ∨ (65281 ≤ r ∧ 65374 < r ∧ r < 65382) ∨ (65382 ≤ r ∧ 65439 < r) := by omega
    have h2' : (r == 65377) = false := by simpa using h2
    have h3' : (r == 65381) = false := by simpa using h3
    clear h1 h4
    rcases hc with h | ⟨h, h', h''⟩ | ⟨h, h'⟩
    all_goals
      go_enter Tryz.func25, Tryz.ntmps25
      go_wp2_with fail
      go_ret
      exact ⟨ret_int H.out.symm, hok.1⟩
end Go.Proofs.YtemdmalcoemhnabGreat.Pr

namespace Go.Proofs.YtemdmalcoemhnabGreat.Pr
open Go.RowKit Go.Lib

theorem dist_snoc : ∀ (M : List R3) (y : R3), distB (M ++ [y]) = true → distB M = true ∧ ∀ m ∈ M, m.1 ≠ y.1
  | [], y, _ => ⟨rfl, fun m hm => by simp at hm⟩
  | x :: M, y, h => by
    simp only [List.cons_append, distB, Bool.and_eq_true] at h
    have ih := dist_snoc M y h.2
    have ha := List.all_eq_true.1 h.1
    refine ⟨?_, fun m hm => ?_⟩
    · simp only [distB, Bool.and_eq_true]
      exact ⟨List.all_eq_true.2 (fun z hz => ha z (by simp [hz])), ih.1⟩
    · rcases List.mem_cons.1 hm with rfl | hm
      · have := ha y (by simp)
        intro e
        simp [e] at this
      · exact ih.2 m hm

theorem dn_of_mem (L : List R3) : distB L = true → ∀ x ∈ L, dnF L x.1 = some (valP x) := by
  refine snoc_ind (P := fun L => distB L = true → ∀ x ∈ L, dnF L x.1 = some (valP x)) (fun _ x hx => by simp at hx) (fun M y ih hd x hx => ?_) L
  have h := dist_snoc M y hd
  rw [dn_snoc]
  show (if x.1 = y.1 then some (valP y) else dnF M x.1) = _
  rcases List.mem_append.1 hx with hm | hm
  · rw [if_neg (h.2 x hm)]; exact ih h.1 x hm
  · simp at hm; subst hm; rw [if_pos rfl]
theorem dn_mem (L : List R3) (r : Int) (v : Pt) : dnF L r = some v → ∃ x ∈ L, x.1 = r ∧ v = valP x := by
  refine snoc_ind (P := fun L => dnF L r = some v → ∃ x ∈ L, x.1 = r ∧ v = valP x) (fun h => by simp [dnF] at h) (fun M y ih h => ?_) L
  rw [dn_snoc] at h
  have h' : (if r = y.1 then some (valP y) else dnF M r) = some v := h
  split at h'
  · rename_i e
    exact ⟨y, by simp, e.symm, (Option.some.inj h').symm⟩
  · obtain ⟨x, hx, h1, h2⟩ := ih h'
    exact ⟨x, by simp [hx], h1, h2⟩

/-- No two rows that are put together have the same two. -/
def udistB : List R3 → Bool
  | [] => true
  | x :: l => (skipB x || l.all (fun y => skipB y || !(y.2.1 == x.2.1 && y.2.2 == x.2.2))) && udistB l
set_option maxRecDepth 1000000 in
theorem all_udist : udistB allP = true := by kernel_rfl
theorem udist_snoc : ∀ (M : List R3) (y : R3), udistB (M ++ [y]) = true → udistB M = true ∧ (skipB y = false → ∀ m ∈ M, skipB m = false → ¬ (m.2.1 = y.2.1 ∧ m.2.2 = y.2.2))
  | [], y, _ => ⟨rfl, fun _ m hm => by simp at hm⟩
  | x :: M, y, h => by
    simp only [List.cons_append, udistB, Bool.and_eq_true] at h
    have ih := udist_snoc M y h.2
    refine ⟨?_, fun hy m hm hs => ?_⟩
    · simp only [udistB, Bool.and_eq_true]
      refine ⟨?_, ih.1⟩
      rcases Bool.or_eq_true_iff.1 h.1 with h1 | h1
      · rw [h1]; rfl
      · rw [Bool.or_eq_true]
        exact .inr (List.all_eq_true.2 (fun z hz => List.all_eq_true.1 h1 z (by simp [hz])))
    · rcases List.mem_cons.1 hm with rfl | hm
      · rcases Bool.or_eq_true_iff.1 h.1 with h1 | h1
        · rw [hs] at h1; cases h1
        · have := List.all_eq_true.1 h1 y (by simp)
          rw [hy] at this
          rintro ⟨e1, e2⟩
          simp [e1, e2] at this
      · exact ih.2 hy m hm hs

theorem up_of_mem (L : List R3) : udistB L = true → ∀ x ∈ L, skipB x = false → upF L (x.2.1, x.2.2) = some x.1 := by
  refine snoc_ind (P := fun L => udistB L = true → ∀ x ∈ L, skipB x = false → upF L (x.2.1, x.2.2) = some x.1) (fun _ x hx => by simp at hx) (fun M y ih hd x hx hs => ?_) L
  have h := udist_snoc M y hd
  rw [up_snoc]
  show (if skipB y = true then upF M (x.2.1, x.2.2) else if (x.2.1, x.2.2) = (y.2.1, y.2.2) then some y.1 else upF M (x.2.1, x.2.2)) = _
  rcases List.mem_append.1 hx with hm | hm
  · split
    · exact ih h.1 x hm hs
    · rename_i hy
      have hy' : skipB y = false := by simpa using hy
      have := h.2 hy' x hm hs
      rw [if_neg (fun e => this (by simpa using e))]
      exact ih h.1 x hm hs
  · simp at hm; subst hm
    rw [if_neg (by simp [hs]), if_pos rfl]
theorem up_mem (L : List R3) (k : Int × Int) (z : Int) : upF L k = some z → ∃ x ∈ L, skipB x = false ∧ k = (x.2.1, x.2.2) ∧ z = x.1 := by
  refine snoc_ind (P := fun L => upF L k = some z → ∃ x ∈ L, skipB x = false ∧ k = (x.2.1, x.2.2) ∧ z = x.1) (fun h => by simp [upF] at h) (fun M y ih h => ?_) L
  rw [up_snoc] at h
  have h' : (if skipB y = true then upF M k else if k = (y.2.1, y.2.2) then some y.1 else upF M k) = some z := h
  split at h'
  · obtain ⟨x, hx, h1⟩ := ih h'
    exact ⟨x, by simp [hx], h1⟩
  · rename_i hy
    split at h'
    · rename_i e
      exact ⟨y, by simp, by simpa using hy, e, (Option.some.inj h').symm⟩
    · obtain ⟨x, hx, h1⟩ := ih h'
      exact ⟨x, by simp [hx], h1⟩
theorem sc_pos (L : List R3) (r : Int) : 0 < (scF L r).getD 0 ↔ ∃ x ∈ L, skipB x = false ∧ x.2.2 = r := by
  refine snoc_ind (P := fun L => 0 < (scF L r).getD 0 ↔ ∃ x ∈ L, skipB x = false ∧ x.2.2 = r) (by simp [scF]) (fun M y ih => ?_) L
  rw [sc_snoc]
  show 0 < (if skipB y = true then scF M r else if r = y.2.2 then some ((scF M y.2.2).getD 0 + 1) else scF M r).getD 0 ↔ _
  have hex : (∃ x ∈ M ++ [y], skipB x = false ∧ x.2.2 = r) ↔ (∃ x ∈ M, skipB x = false ∧ x.2.2 = r) ∨ (skipB y = false ∧ y.2.2 = r) := by
    constructor
    · rintro ⟨x, hx, h⟩
      rcases List.mem_append.1 hx with hm | hm
      · exact .inl ⟨x, hm, h⟩
      · simp at hm; subst hm; exact .inr h
    · rintro (⟨x, hx, h⟩ | h)
      · exact ⟨x, by simp [hx], h⟩
      · exact ⟨y, by simp, h⟩
  rw [hex]
  split
  · rename_i hy
    rw [ih]
    constructor
    · exact .inl
    · rintro (h | ⟨h, _⟩)
      · exact h
      · rw [hy] at h; cases h
  · rename_i hy
    have hy' : skipB y = false := by simpa using hy
    split
    · rename_i e
      have := (sc_bd y.2.2 M).1
      simp only [Option.getD_some]
      constructor
      · intro _; exact .inr ⟨hy', e.symm⟩
      · intro _; omega
    · rename_i e
      rw [ih]
      constructor
      · exact .inl
      · rintro (h | ⟨_, h⟩)
        · exact h
        · exact absurd h.symm e

/-- What is made of two is made by them, or is never put together. -/
theorem back1 (r x y : Int) (h : dnF allP r = some (x, y, 2)) (hx : exB r = false) : upF allP (x, y) = some r := by
  obtain ⟨R, hR, e1, e2⟩ := dn_mem allP r _ h
  unfold valP at e2
  simp only [Prod.mk.injEq] at e2
  obtain ⟨a1, a2, a3⟩ := e2
  have h0 : R.2.2 ≠ 0 := fun e => by rw [if_pos e] at a3; cases a3
  have hs : skipB R = false := by
    unfold skipB
    rw [e1, hx]
    simp [h0]
  have := up_of_mem allP all_udist R hR hs
  rw [a1, a2, ← e1]; exact this
theorem back2 (a b z : Int) (h : upF allP (a, b) = some z) : dnF allP z = some (a, b, 2) ∧ exB z = false := by
  obtain ⟨R, hR, hs, e1, rfl⟩ := up_mem allP _ _ h
  simp only [Prod.mk.injEq] at e1
  have hs' := hs
  unfold skipB at hs'
  rw [Bool.or_eq_false_iff] at hs'
  refine ⟨?_, hs'.2⟩
  rw [dn_of_mem allP all_dist R hR]
  unfold valP
  rw [if_neg (by simpa using hs'.1), e1.1, e1.2]

/-- Told twice it is as told once. -/
def inSpan (r : Int) : Bool := spanT.any (fun x => decide (x.1 ≤ r) && decide (r ≤ x.2.1))
theorem low_out (r : Int) : ∀ (T : List S4), T.any (fun x => decide (x.1 ≤ r) && decide (r ≤ x.2.1)) = false → lowP r T = r
  | [], _ => rfl
  | x :: T, h => by
    rw [List.any_cons, Bool.or_eq_false_iff] at h
    unfold lowP
    rw [if_neg (fun hh => by simp [hh.1, hh.2.1] at h), low_out r T h.2]
def spanEach (x : S4) : Bool := (List.range (x.2.1 - x.1 + 1).toNat).all (fun i => lowP (lowP (x.1 + (i : Nat)) spanT) spanT == lowP (x.1 + (i : Nat)) spanT && decide (0 ≤ lowP (x.1 + (i : Nat)) spanT) && decide (lowP (x.1 + (i : Nat)) spanT ≤ 100000))
set_option maxRecDepth 1000000 in
theorem span_each : spanT.all spanEach = true := by kernel_rfl
theorem low_facts (r : Int) (hr : I32 r) : lowP (lowP r spanT) spanT = lowP r spanT ∧ I32 (lowP r spanT) := by
  cases h : inSpan r with
  | false =>
    have := low_out r spanT h
    rw [this]; exact ⟨this, hr⟩
  | true =>
    obtain ⟨x, hx, hh⟩ := List.any_eq_true.1 h
    rw [Bool.and_eq_true, decide_eq_true_eq, decide_eq_true_eq] at hh
    have h1 := List.all_eq_true.1 span_each x hx
    have h2 := List.all_eq_true.1 h1 (r - x.1).toNat (List.mem_range.2 (by omega))
    rw [show x.1 + ((r - x.1).toNat : Int) = r by omega] at h2
    simp only [Bool.and_eq_true, beq_iff_eq, decide_eq_true_eq] at h2
    refine ⟨h2.1.1, ?_⟩
    unfold I32
    omega
def kanaOk (v : Int) : Bool := widP v == v && decide (0 ≤ v) && decide (v ≤ 100000)
set_option maxRecDepth 1000000 in
theorem kana_each : kanaT.all kanaOk = true := by kernel_rfl
theorem wid_facts (r : Int) (hr : I32 r) : widP (widP r) = widP r ∧ I32 (widP r) := by
  have hr' := hr
  unfold I32 at hr'
  by_cases h1 : 65281 ≤ r ∧ r ≤ 65374
  · have e : widP r = r - 65281 + 33 := if_pos h1
    rw [e]
    refine ⟨?_, by unfold I32; omega⟩
    unfold widP
    rw [if_neg (by omega), if_neg (by omega), if_neg (by omega), if_neg (by omega)]
  by_cases h2 : r = 65377
  · subst h2; exact ⟨rfl, by unfold I32; exact ⟨by decide, by decide⟩⟩
  by_cases h3 : r = 65381
  · subst h3; exact ⟨rfl, by unfold I32; exact ⟨by decide, by decide⟩⟩
  by_cases h4 : 65382 ≤ r ∧ r ≤ 65439
  · have e : widP r = kanaT.getD (r - 65382).toNat 0 := by unfold widP; rw [if_neg h1, if_neg h2, if_neg h3, if_pos h4]
    have hk : (r - 65382).toNat < kanaT.length := by show _ < 58; omega
    rw [List.getD_eq_getElem?_getD, List.getElem?_eq_getElem hk] at e
    simp only [Option.getD_some] at e
    have h5 := List.all_eq_true.1 kana_each kanaT[(r - 65382).toNat] (List.getElem_mem hk)
    unfold kanaOk at h5
    simp only [Bool.and_eq_true, beq_iff_eq, decide_eq_true_eq] at h5
    rw [e]
    exact ⟨h5.1.1, by unfold I32; omega⟩
  · have e : widP r = r := by unfold widP; rw [if_neg h1, if_neg h2, if_neg h3, if_neg h4]
    rw [e]; exact ⟨e, hr⟩

set_option maxRecDepth 1000000 in
theorem dn_E9 : (dnF allP 233).getD (0, 0, 0) = (101, 769, 2) := by kernel_rfl
set_option maxRecDepth 1000000 in
theorem up_E9 : (upF allP (101, 769)).getD 0 = 233 := by kernel_rfl
set_option maxRecDepth 1000000 in
theorem up_E9' : (upF allP (101, 769)).isSome = true := by kernel_rfl
theorem low_A : lowP 65 spanT = 97 := by kernel_rfl
theorem wid_A : widP 65313 = 65 := by kernel_rfl

end Go.Proofs.YtemdmalcoemhnabGreat.Pr

namespace Go.Proofs.YtemdmalcoemhnabGreat.Pr
open Go.RowKit Go.Lib

def d1 (r : Int) : Int := ((dnF allP r).getD (0, 0, 0)).1
def d2 (r : Int) : Int := ((dnF allP r).getD (0, 0, 0)).2.1
def d3 (r : Int) : Int := ((dnF allP r).getD (0, 0, 0)).2.2
def u1 (a b : Int) : Int := (upF allP (a, b)).getD 0
def u2 (a b : Int) : Bool := (upF allP (a, b)).isSome
def exq (r : Int) : Bool := exF (dnF allP r) r
def s1 (r : Int) : Bool := decide (0 < (scF allP r).getD 0)

section
variable {w : World} {p d u s : Nat}
theorem down_g (h : PW w p d u s allP 395) {r : Int} (hr : I32 r) : Calls Tryz.prog 68 #[.pointer (some ⟨p, 0, none⟩), .int .i32 r] w fun e w' => e = .returned (.tuple #[.int .i32 (d1 r), .int .i32 (d2 r), .int .i64 (d3 r)]) ∧ Below w.heap.size w w' := down_any h hr rfl
theorem up_g (h : PW w p d u s allP 395) {a b : Int} (ha : I32 a) (hb : I32 b) : Calls Tryz.prog 65 #[.pointer (some ⟨p, 0, none⟩), .int .i32 a, .int .i32 b] w fun e w' => e = .returned (.tuple #[.int .i32 (u1 a b), .bool (u2 a b)]) ∧ w' = w := up_any h ha hb rfl rfl
theorem ex_g (h : PW w p d u s allP 395) {r : Int} (hr : I32 r) : Calls Tryz.prog 40 #[.pointer (some ⟨p, 0, none⟩), .int .i32 r] w fun e w' => e = .returned (.bool (exq r)) ∧ w' = w := ex_any h hr
end

theorem d_bd (r : Int) : I32 (d1 r) ∧ I32 (d2 r) ∧ 0 ≤ d3 r ∧ d3 r ≤ 2 := by
  unfold d1 d2 d3
  cases hd : dnF allP r with
  | none => exact ⟨⟨by decide, by decide⟩, ⟨by decide, by decide⟩, by decide, by decide⟩
  | some v =>
    obtain ⟨R, hR, _, rfl⟩ := dn_mem allP r v hd
    have hb := all_bd R hR
    refine ⟨hb.2.1, hb.2.2, ?_⟩
    show 0 ≤ (valP R).2.2 ∧ (valP R).2.2 ≤ 2
    unfold valP
    simp only
    split <;> decide
theorem u_bd (a b : Int) : I32 (u1 a b) := by
  unfold u1
  cases hu : upF allP (a, b) with
  | none => exact ⟨by decide, by decide⟩
  | some z =>
    obtain ⟨R, hR, _, _, rfl⟩ := up_mem allP _ z hu
    exact (all_bd R hR).1
theorem bk1 (r : Int) (h3 : d3 r = 2) (he : exq r = false) : u1 (d1 r) (d2 r) = r ∧ u2 (d1 r) (d2 r) = true := by
  unfold d3 at h3
  unfold d1 d2 u1 u2
  unfold exq exF at he
  rw [Bool.or_eq_false_iff] at he
  cases hd : dnF allP r with
  | none => rw [hd] at h3; simp at h3
  | some v =>
    obtain ⟨v1, v2, v3⟩ := v
    rw [hd] at h3
    simp only [Option.getD_some] at h3 ⊢
    subst h3
    rw [back1 r v1 v2 hd he.2]
    exact ⟨rfl, rfl⟩
theorem bk2 (a b : Int) (h : u2 a b = true) : d3 (u1 a b) = 2 ∧ d1 (u1 a b) = a ∧ d2 (u1 a b) = b ∧ exq (u1 a b) = false := by
  unfold u2 at h
  unfold d1 d2 d3 exq exF u1
  cases hu : upF allP (a, b) with
  | none => rw [hu] at h; cases h
  | some z =>
    have hb := back2 a b z hu
    simp only [Option.getD_some]
    rw [hb.1, hb.2]
    exact ⟨rfl, rfl, rfl, rfl⟩
end Go.Proofs.YtemdmalcoemhnabGreat.Pr

namespace Go.Proofs.YtemdmalcoemhnabGreat.Pr
open Go.RowKit Go.Great

/-- The place in the Go text that a function's first and second region name. -/
def posA (f : Func) : String :=
  match f.body with
  | some (.seq (.region _ ops _) _) => (ops[0]?.map (fun o => o.pos)).getD ""
  | _ => ""
def posB (f : Func) : String :=
  match f.body with
  | some (.seq _ (.seq (.region _ ops _) _)) => (ops[0]?.map (fun o => o.pos)).getD ""
  | _ => ""

/-- A row of the reference: three ints. -/
def rc3 (x : R3) : List Value := [.int .i64 x.1, .int .i64 x.2.1, .int .i64 x.2.2]

/-- The operations that build the reference's rows, one each. -/
def rlOps (pos : String) : Nat → List R3 → List Oper
  | _, [] => []
  | d, x :: xs =>
    { dst := some d, op := .build 135 #[(0, .const (.int .i64 x.1)), (1, .const (.int .i64 x.2.1)), (2, .const (.int .i64 x.2.2))], type := 135, pos := pos, after := #[], guard := none } ::
    rlOps pos (d + 1) xs

theorem rbuilt3 (x : R3) : Tryz.prog.built 135 [(0, .int .i64 x.1), (1, .int .i64 x.2.1), (2, .int .i64 x.2.2)] = some (rc3 x).toArray := by kernel_rfl

theorem wpList_rls {ops : Array Oper} {rest : List Oper} {w : World} {Q : Exit → Act → World → Prop} (pos : String) :
    ∀ (xs : List R3) (d : Nat) (a : Act), d + xs.length ≤ a.tmps.size →
      (∀ a' : Act, a'.tmps.size = a.tmps.size → a'.defers = a.defers → (∀ i (h : i < xs.length), a'.eval (.tmp (d + i)) = .agg (rc3 xs[i]).toArray) →
        (∀ j, j < d → a'.eval (.tmp j) = a.eval (.tmp j)) → wpList Tryz.prog ops Q rest a' w) →
      wpList Tryz.prog ops Q (rlOps pos d xs ++ rest) a w
  | [], d, a, _, h => h a rfl rfl (fun i hi => absurd hi (by simp)) (fun _ _ => rfl)
  | x :: xs, d, a, hd, h => by
    have hlt : d < a.tmps.size := by simp at hd; omega
    show wpList Tryz.prog ops Q (_ :: (rlOps pos (d + 1) xs ++ rest)) a w
    refine wpList_buildTo rfl 135 _ rfl (some d) rfl (rc3 x).toArray (by simpa [Act.eval] using rbuilt3 x) ?_
    refine wpList_rls pos xs (d + 1) _ (by rw [Act.size_put]; simp at hd; omega) fun a' hs hdf hev hlow => ?_
    refine h a' (by rw [hs, Act.size_put]) (by rw [hdf, Act.defers_put']) (fun i hi => ?_) (fun j hj => ?_)
    · cases i with
      | zero => rw [show d + 0 = d by omega, hlow d (by omega), Act.eval_put_same _ _ _ (by omega)]; rfl
      | succ i =>
        have := hev i (by simpa using hi)
        rw [show d + (i + 1) = d + 1 + i by omega, this]
        rfl
    · rw [hlow j (by omega), Act.eval_put_ne _ _ _ _ (by omega)]

/-- The last two operations: the slice of the lines, and the answer. -/
def rlitEnd (p2 : String) (n : Nat) : List Oper :=
  [{ dst := some (n + 1), op := .buildSlice 116 n ((List.range n).map fun i => (i, Operand.tmp (1 + i))).toArray, type := 116, pos := p2, after := ((List.range n).map fun i => ⟨i, .data⟩).toArray, guard := none },
   { dst := some 0, op := .assign (.tmp (n + 1)), type := 116, pos := p2, after := (⟨n, .data⟩ :: (List.range (n + 1)).map fun i => ⟨i, .phase⟩).toArray, guard := none }]

def rlitStart (p1 : String) : List Oper := [{ dst := some 0, op := .assign (.const (.slice none 0 0)), type := 116, pos := p1, after := #[], guard := none }]

/-- The body of a function that is one literal of rows. -/
def rlitBody (p1 p2 : String) (T : List R3) : Code :=
  .seq (.region 0 (rlitStart p1).toArray false) (.seq (.region 1 (rlOps p2 1 T ++ rlitEnd p2 T.length).toArray false) .ret)

/-- What such a function tells: a new block of the rows' cells, and a slice of it. -/
theorem rlit_calls {f : FuncId} {fn : Func} (p1 p2 : String) (T : List R3) (w : World) (hf : Tryz.prog.funcs[f]? = some fn) (hb : fn.body = some (rlitBody p1 p2 T)) (hr : fn.results = #[.tmp 0]) (hn : fn.ntmps = T.length + 2)
    (hpos : 0 < T.length) (hsmall : T.length * 3 ≤ 2 ^ 24) :
    Calls Tryz.prog f #[] w fun e w' => e = .returned (.slice (some ⟨w.heap.size, 0, none⟩) T.length T.length) ∧ w' = w.alloc (.cells (T.flatMap rc3).toArray 135) := by
  refine calls_of_wp hf hb ?_
  refine wp_anyFrame (T.length + 2) (by simp [hn]) rfl fun a0 hs0 hd0 => ?_
  unfold rlitBody
  apply wp_seq_k; intro K0 hK0
  apply wp_region_lit
  unfold rlitStart
  refine wpList_readTo rfl (some 0) rfl (.slice none 0 0) rfl ?_
  apply wpList_nil
  refine hK0 _ _ ?_
  refine wp_anyFrame (T.length + 2) (by simp only [Act.size_put, hs0]) (by simp only [Act.defers_put', hd0]) fun a1 hs1 hd1 => ?_
  clear hK0 K0
  apply wp_seq_k; intro K1 hK1
  apply wp_region_lit
  refine wpList_rls p2 T 1 a1 (by omega) fun b hbs hbd hev _ => ?_
  have hl : (T.map fun x => Value.agg (rc3 x).toArray).length = T.length := by simp
  have hfl : ((T.map fun x => Value.agg (rc3 x).toArray).flatMap fun v => v.cells.toList) = T.flatMap rc3 := by simp [List.flatMap_map, Value.cells]
  unfold rlitEnd
  refine wpList_buildRows rfl 116 135 _ 3 (T.map fun x => Value.agg (rc3 x).toArray) (by rw [hl]) (fun i => 1 + i) w.heap.size rfl (some (T.length + 1)) rfl (by kernel_rfl) (by kernel_rfl) (by kernel_rfl) (by omega) (by rw [hl]; exact hpos) (by rw [hl]; exact hsmall)
    (by rw [hl]) (fun v hv => by obtain ⟨x, _, rfl⟩ := List.mem_map.1 hv; rfl) (fun i hi => by rw [hev i (by simpa using hi)]; simp) ?_
  rw [hl, hfl]
  refine wpList_readTo rfl (some 0) rfl (.slice (some ⟨w.heap.size, 0, none⟩) T.length T.length) ?_ ?_
  · show Sem.run _ _ _ = _
    simp only [execOp]
    rw [Act.eval_put_same _ _ _ (by omega)]
    rfl
  apply wpList_nil
  refine hK1 _ _ ?_
  refine wp_ret (bodyPost_ret (results_tmp hr _ _ _) (by simp only [Act.defers_put', hbd, hd1]) ?_)
  refine ⟨?_, rfl⟩
  have := Act.eval_put_same (b.put (some (T.length + 1)) (.slice (some ⟨w.heap.size, 0, none⟩) T.length T.length)) 0 (.slice (some ⟨w.heap.size, 0, none⟩) T.length T.length) (by rw [Act.size_put]; omega)
  exact congrArg Ending.returned this

theorem rsingles_any (w : World) : Calls Tryz.prog 73 #[] w fun e w' => e = .returned (.slice (some ⟨w.heap.size, 0, none⟩) singT.length singT.length) ∧ w' = w.alloc (.cells (singT.flatMap rc3).toArray 135) :=
  rlit_calls (posA Tryz.f73) (posB Tryz.f73) singT w Tryz.func73 (by kernel_rfl) rfl (by kernel_rfl) (by decide) (by decide)

theorem rpairs0_any (w : World) : Calls Tryz.prog 74 #[] w fun e w' => e = .returned (.slice (some ⟨w.heap.size, 0, none⟩) pairT0.length pairT0.length) ∧ w' = w.alloc (.cells (pairT0.flatMap rc3).toArray 135) :=
  rlit_calls (posA Tryz.f74) (posB Tryz.f74) pairT0 w Tryz.func74 (by kernel_rfl) rfl (by kernel_rfl) (by decide) (by decide)

theorem rpairs1_any (w : World) : Calls Tryz.prog 75 #[] w fun e w' => e = .returned (.slice (some ⟨w.heap.size, 0, none⟩) pairT1.length pairT1.length) ∧ w' = w.alloc (.cells (pairT1.flatMap rc3).toArray 135) :=
  rlit_calls (posA Tryz.f75) (posB Tryz.f75) pairT1 w Tryz.func75 (by kernel_rfl) rfl (by kernel_rfl) (by decide) (by decide)

theorem rpairs2_any (w : World) : Calls Tryz.prog 76 #[] w fun e w' => e = .returned (.slice (some ⟨w.heap.size, 0, none⟩) pairT2.length pairT2.length) ∧ w' = w.alloc (.cells (pairT2.flatMap rc3).toArray 135) :=
  rlit_calls (posA Tryz.f76) (posB Tryz.f76) pairT2 w Tryz.func76 (by kernel_rfl) rfl (by kernel_rfl) (by decide) (by decide)

theorem rpairs3_any (w : World) : Calls Tryz.prog 77 #[] w fun e w' => e = .returned (.slice (some ⟨w.heap.size, 0, none⟩) pairT3.length pairT3.length) ∧ w' = w.alloc (.cells (pairT3.flatMap rc3).toArray 135) :=
  rlit_calls (posA Tryz.f77) (posB Tryz.f77) pairT3 w Tryz.func77 (by kernel_rfl) rfl (by kernel_rfl) (by decide) (by decide)

theorem rpairs4_any (w : World) : Calls Tryz.prog 78 #[] w fun e w' => e = .returned (.slice (some ⟨w.heap.size, 0, none⟩) pairT4.length pairT4.length) ∧ w' = w.alloc (.cells (pairT4.flatMap rc3).toArray 135) :=
  rlit_calls (posA Tryz.f78) (posB Tryz.f78) pairT4 w Tryz.func78 (by kernel_rfl) rfl (by kernel_rfl) (by decide) (by decide)

theorem rpairs5_any (w : World) : Calls Tryz.prog 79 #[] w fun e w' => e = .returned (.slice (some ⟨w.heap.size, 0, none⟩) pairT5.length pairT5.length) ∧ w' = w.alloc (.cells (pairT5.flatMap rc3).toArray 135) :=
  rlit_calls (posA Tryz.f79) (posB Tryz.f79) pairT5 w Tryz.func79 (by kernel_rfl) rfl (by kernel_rfl) (by decide) (by decide)

theorem rpairs6_any (w : World) : Calls Tryz.prog 80 #[] w fun e w' => e = .returned (.slice (some ⟨w.heap.size, 0, none⟩) pairT6.length pairT6.length) ∧ w' = w.alloc (.cells (pairT6.flatMap rc3).toArray 135) :=
  rlit_calls (posA Tryz.f80) (posB Tryz.f80) pairT6 w Tryz.func80 (by kernel_rfl) rfl (by kernel_rfl) (by decide) (by decide)

theorem Tryz.info_rr3 : (Tryz.prog.info? 135).map (fun i => (i.zero, i.size, i.bytes)) = some (some (.agg #[.int .i64 0, .int .i64 0, .int .i64 0]), 3, 24) := by kernel_rfl
theorem rc3_len (l : List R3) : (l.flatMap rc3).length = l.length * 3 := by
  induction l with
  | nil => rfl
  | cons x l ih => simp only [List.flatMap_cons, List.length_append, ih, List.length_cons, rc3, List.length_nil]; omega
theorem rc3_one (l : List R3) : ∀ u ∈ l.flatMap rc3, u.oneCell' = true := by
  intro u hu
  obtain ⟨x, _, hx⟩ := List.mem_flatMap.1 hu
  simp [rc3] at hx
  rcases hx with rfl | rfl | rfl <;> rfl

theorem wpList_rapp {ops : Array Oper} {rest : List Oper} {o : Oper} {a : Act} {Q : Exit → Act → World → Prop} (hgd : o.guard = none) (s x : Operand)
    (ho : o.op = .call { callee := .builtin .append, args := #[s, x], argTypes := #[116, 116] }) (W : World) (B : Nat) (v : Value) (n : Nat) (A T : List R3) (hA : A.length = n) (hs : a.eval s = v) (hx : a.eval x = .slice (some ⟨W.heap.size, 0, none⟩) T.length T.length)
    (hown : W.ownsRow B 135 3 v n (A.flatMap rc3)) (hn : A.length + T.length ≤ 5000) (hB : B ≤ W.heap.size)
    (h : ∀ v' w' m, Hid ((A ++ T).length = m) → w'.ownsRow B 135 3 v' m ((A ++ T).flatMap rc3) → Below B W w' → wpList Tryz.prog ops Q rest (a.put o.dst v') w') :
    wpList Tryz.prog ops Q (o :: rest) a (W.alloc (.cells (T.flatMap rc3).toArray 135)) := by
  subst hA
  obtain ⟨i0, hi, hz0, hz1, hz2⟩ := info_parts Tryz.info_rr3
  refine wpList_append_own_at _ hgd s x 116 ho B 135 i0 (.agg #[.int .i64 0, .int .i64 0, .int .i64 0]) 3 24 Tryz.underlying116 hi hz0 hz1 hz2 rfl (by decide) v A.length (A.flatMap rc3) hs (hown.alloc _) ⟨W.heap.size, 0, none⟩ T.length T.length (T.flatMap rc3) hx (rc3_len T)
    (World.news_of_block (heap_alloc_new W _)) (rc3_one T) (by unfold maxLen; omega) (by omega) (by simp; omega) (fun v' w' h1 h2 _ _ => h v' w' _ rfl ?_ ?_)
  · rw [List.length_append, List.flatMap_append]; exact h1
  · exact ((Below.refl _ _).alloc hB _).trans (below_of_grown h2 B (by simp; omega) (fun k e => (hown.lt k e).1))

theorem own_new (w : World) (T : List R3) (h : T.length ≤ 5000) : (w.alloc (.cells (T.flatMap rc3).toArray 135)).ownsRow w.heap.size 135 3 (.slice (some ⟨w.heap.size, 0, none⟩) T.length T.length) T.length (T.flatMap rc3) :=
  ⟨rc3_len T, .inr ⟨w.heap.size, T.length, _, rfl, Nat.le_refl _, heap_alloc_new w _, Nat.le_refl _, by unfold maxLen; omega, by rw [List.size_toArray, rc3_len], by show (T.flatMap rc3).take (T.length * 3) = _; rw [List.take_of_length_le (Nat.le_of_eq (rc3_len T))]⟩⟩

theorem parts_all : singT ++ pairT0 ++ pairT1 ++ pairT2 ++ pairT3 ++ pairT4 ++ pairT5 ++ pairT6 = allP := by unfold allP pairT; simp only [List.append_assoc]

set_option maxHeartbeats 2000000 in
set_option maxRecDepth 100000 in
theorem rall_any (w : World) : Calls Tryz.prog 57 #[] w fun e w' => ∃ v, e = .returned v ∧ w'.ownsRow w.heap.size 135 3 v allP.length (allP.flatMap rc3) ∧ Below w.heap.size w w' := by
  have HSg := hid (fun w => rsingles_any w)
  have lS : singT.length ≤ 60 := by decide
  have H0 := hid (fun w => rpairs0_any w)
  have l0 : pairT0.length ≤ 60 := by decide
  have H1 := hid (fun w => rpairs1_any w)
  have l1 : pairT1.length ≤ 60 := by decide
  have H2 := hid (fun w => rpairs2_any w)
  have l2 : pairT2.length ≤ 60 := by decide
  have H3 := hid (fun w => rpairs3_any w)
  have l3 : pairT3.length ≤ 60 := by decide
  have H4 := hid (fun w => rpairs4_any w)
  have l4 : pairT4.length ≤ 60 := by decide
  have H5 := hid (fun w => rpairs5_any w)
  have l5 : pairT5.length ≤ 60 := by decide
  have H6 := hid (fun w => rpairs6_any w)
  have l6 : pairT6.length ≤ 60 := by decide
  have HO0 := hid (own_new w singT (by omega))
  have HB0 := hid ((Below.refl w.heap.size w).alloc (Nat.le_refl _) (.cells (singT.flatMap rc3).toArray 135))
  rw [← parts_all]
  generalize singT = S at *
  generalize pairT0 = T0 at *
  generalize pairT1 = T1 at *
  generalize pairT2 = T2 at *
  generalize pairT3 = T3 at *
  generalize pairT4 = T4 at *
  generalize pairT5 = T5 at *
  generalize pairT6 = T6 at *
  obtain ⟨n0, hn0⟩ : ∃ n, S.length = n := ⟨_, rfl⟩
  have hn0 := hid hn0
  rw [hn0.out] at HO0 HSg
  go_enter Tryz.func57, Tryz.ntmps57
  go_wp2_with (first | (go_at_call 73; refine (HSg.out _).mono ?_; rintro e w' ⟨rfl, rfl⟩) | (go_at_call 74; refine (H0.out _).mono ?_; rintro e w' ⟨rfl, rfl⟩) | (at_builtin; refine wpList_rapp rfl (.tmp 3) (.tmp 4) rfl (w.alloc (.cells (S.flatMap rc3).toArray 135)) w.heap.size (.slice (some ⟨w.heap.size, 0, none⟩) n0 n0) n0 (S) T0 hn0.out rfl (by simp [Act.eval]) HO0.out (by have := hn0.out; simp; omega) HB0.out.size ?_; intro v1 w1 n1 hn1 ho hb; have HO1 := hid ho; have HB1 := hid (HB0.out.trans hb); clear ho hb; obtain ⟨ao1, cap1, rfl⟩ := own_slice HO1.out))
  go_wp2_with (first | (go_at_call 75; refine (H1.out _).mono ?_; rintro e w' ⟨rfl, rfl⟩) | (at_builtin; refine wpList_rapp rfl (.tmp 6) (.tmp 7) rfl w1 w.heap.size (.slice ao1 n1 cap1) n1 (S ++ T0) T1 hn1.out rfl (by exact rfl) HO1.out (by have := hn0.out; simp; omega) HB1.out.size ?_; intro v2 w2 n2 hn2 ho hb; have HO2 := hid ho; have HB2 := hid (HB1.out.trans hb); clear ho hb; obtain ⟨ao2, cap2, rfl⟩ := own_slice HO2.out))
  go_wp2_with (first | (go_at_call 76; refine (H2.out _).mono ?_; rintro e w' ⟨rfl, rfl⟩) | (at_builtin; refine wpList_rapp rfl (.tmp 9) (.tmp 10) rfl w2 w.heap.size (.slice ao2 n2 cap2) n2 (S ++ T0 ++ T1) T2 hn2.out rfl (by exact rfl) HO2.out (by have := hn0.out; simp; omega) HB2.out.size ?_; intro v3 w3 n3 hn3 ho hb; have HO3 := hid ho; have HB3 := hid (HB2.out.trans hb); clear ho hb; obtain ⟨ao3, cap3, rfl⟩ := own_slice HO3.out))
  go_wp2_with (first | (go_at_call 77; refine (H3.out _).mono ?_; rintro e w' ⟨rfl, rfl⟩) | (at_builtin; refine wpList_rapp rfl (.tmp 12) (.tmp 13) rfl w3 w.heap.size (.slice ao3 n3 cap3) n3 (S ++ T0 ++ T1 ++ T2) T3 hn3.out rfl (by exact rfl) HO3.out (by have := hn0.out; simp; omega) HB3.out.size ?_; intro v4 w4 n4 hn4 ho hb; have HO4 := hid ho; have HB4 := hid (HB3.out.trans hb); clear ho hb; obtain ⟨ao4, cap4, rfl⟩ := own_slice HO4.out))
  go_wp2_with (first | (go_at_call 78; refine (H4.out _).mono ?_; rintro e w' ⟨rfl, rfl⟩) | (at_builtin; refine wpList_rapp rfl (.tmp 15) (.tmp 16) rfl w4 w.heap.size (.slice ao4 n4 cap4) n4 (S ++ T0 ++ T1 ++ T2 ++ T3) T4 hn4.out rfl (by exact rfl) HO4.out (by have := hn0.out; simp; omega) HB4.out.size ?_; intro v5 w5 n5 hn5 ho hb; have HO5 := hid ho; have HB5 := hid (HB4.out.trans hb); clear ho hb; obtain ⟨ao5, cap5, rfl⟩ := own_slice HO5.out))
  go_wp2_with (first | (go_at_call 79; refine (H5.out _).mono ?_; rintro e w' ⟨rfl, rfl⟩) | (at_builtin; refine wpList_rapp rfl (.tmp 18) (.tmp 19) rfl w5 w.heap.size (.slice ao5 n5 cap5) n5 (S ++ T0 ++ T1 ++ T2 ++ T3 ++ T4) T5 hn5.out rfl (by exact rfl) HO5.out (by have := hn0.out; simp; omega) HB5.out.size ?_; intro v6 w6 n6 hn6 ho hb; have HO6 := hid ho; have HB6 := hid (HB5.out.trans hb); clear ho hb; obtain ⟨ao6, cap6, rfl⟩ := own_slice HO6.out))
  go_wp2_with (first | (go_at_call 80; refine (H6.out _).mono ?_; rintro e w' ⟨rfl, rfl⟩) | (at_builtin; refine wpList_rapp rfl (.tmp 21) (.tmp 22) rfl w6 w.heap.size (.slice ao6 n6 cap6) n6 (S ++ T0 ++ T1 ++ T2 ++ T3 ++ T4 ++ T5) T6 hn6.out rfl (by exact rfl) HO6.out (by have := hn0.out; simp; omega) HB6.out.size ?_; intro v7 w7 n7 hn7 ho hb; have HO7 := hid ho; have HB7 := hid (HB6.out.trans hb); clear ho hb; obtain ⟨ao7, cap7, rfl⟩ := own_slice HO7.out))
  go_ret
  exact ⟨_, rfl, by have := HO7.out; rw [← hn7.out] at this; rw [← hn7.out]; exact this, HB7.out⟩
end Go.Proofs.YtemdmalcoemhnabGreat.Pr

namespace Go.Proofs.YtemdmalcoemhnabGreat.Pr
open Go.RowKit

/-- The reference's rows as they are read. -/
def RR3 (w : World) (g : Nat) (T : List R3) : Prop := g < w.heap.size ∧ ∀ k (h : k < T.length), w.cell? ⟨g, k * 3, none⟩ = some (.int .i64 T[k].1) ∧ w.cell? ⟨g, k * 3 + 1, none⟩ = some (.int .i64 T[k].2.1) ∧ w.cell? ⟨g, k * 3 + 2, none⟩ = some (.int .i64 T[k].2.2)
theorem rc3_at : ∀ (l : List R3) (j i : Nat) (h : j < l.length), i < 3 → (l.flatMap rc3)[j * 3 + i]? = (rc3 l[j])[i]?
  | [], _, _, h, _ => by simp at h
  | x :: l, 0, i, _, hi => by
    simp only [List.flatMap_cons, Nat.zero_mul, Nat.zero_add, List.getElem_cons_zero]
    rw [List.getElem?_append_left (by simp [rc3]; omega)]
  | x :: l, j + 1, i, h, hi => by
    have := rc3_at l j i (by simpa using h) hi
    rw [List.flatMap_cons, List.getElem?_append_right (by simp [rc3]; omega)]
    rw [show (j + 1) * 3 + i - (rc3 x).length = j * 3 + i by simp [rc3]; omega, this]
    rfl
theorem rr3_of_own {w : World} {B : Nat} {v : Value} {T : List R3} (h : w.ownsRow B 135 3 v T.length (T.flatMap rc3)) (h0 : 0 < T.length) : ∃ g cap, v = .slice (some ⟨g, 0, none⟩) T.length cap ∧ RR3 w g T := by
  rcases h.2 with ⟨_, h2⟩ | ⟨g, cap, cur, rfl, h2, h3, h4, h5, h6, h7⟩
  · omega
  · refine ⟨g, cap, rfl, (Array.getElem?_eq_some_iff.1 h3).1, fun k hk => ?_⟩
    have c := fun i (hi : i < 3) => (h.cellAt (k * 3 + i) (by omega)).trans (rc3_at T k i hk hi)
    exact ⟨c 0 (by omega), c 1 (by omega), c 2 (by omega)⟩
theorem RR3.step {w w' : World} {g : Nat} {T : List R3} (h : RR3 w g T) (hb : Below w.heap.size w w') : RR3 w' g T :=
  ⟨Nat.lt_of_lt_of_le h.1 hb.size, fun k hk => ⟨(hb.cell (p := ⟨g, k * 3, none⟩) h.1).trans (h.2 k hk).1, (hb.cell (p := ⟨g, k * 3 + 1, none⟩) h.1).trans (h.2 k hk).2.1, (hb.cell (p := ⟨g, k * 3 + 2, none⟩) h.1).trans (h.2 k hk).2.2⟩⟩

/-- What the first row of a code point says. -/
def rdP (r : Int) : List R3 → Pt
  | [] => (0, 0, 0)
  | x :: l => if x.1 = r then valP x else rdP r l

set_option maxHeartbeats 4000000 in
set_option maxRecDepth 100000 in
theorem rdown_any {w : World} {g cap : Nat} {T : List R3} (h : RR3 w g T) (hl : T.length ≤ 1000) (r : Int) {y1 y2 y3 : Int} (hy : rdP r T = (y1, y2, y3)) :
    Calls Tryz.prog 85 #[.slice (some ⟨g, 0, none⟩) T.length cap, .int .i64 r] w fun e w' => e = .returned (.tuple #[.agg #[.int .i64 y1, .int .i64 y2], .int .i64 y3]) ∧ Below w.heap.size w w' := by
  have HC := hid h
  have HY := hid hy
  clear h hy
  go_enter Tryz.func85, Tryz.ntmps85
  go_wp2_with fail
  go_loop [6] (fun i => ∃ k : Nat, k ≤ T.length ∧ i = .int .i64 k ∧ Hid (rdP r T = rdP r (T.drop k))) (fun i => T.length - (intOf i).toNat)
  case atStart => exact ⟨0, Nat.zero_le _, rfl, rfl⟩
  case round =>
    obtain ⟨k, hk, rfl, H⟩ := hrel
    by_cases hlt : k < T.length
    · have hcs := HC.out.2 k hlt
      have hgl := HC.out.1
      have hb0 : Below w.heap.size w (w.alloc (.cells #[.int .i64 0, .int .i64 0] 138)) := (Below.refl _ _).alloc (Nat.le_refl _) _
      have d0 := (hb0.cell (p := ⟨g, k * 3, none⟩) hgl).trans hcs.1
      have d1 := (hb0.cell (p := ⟨g, k * 3 + 1, none⟩) hgl).trans hcs.2.1
      have d2 := (hb0.cell (p := ⟨g, k * 3 + 2, none⟩) hgl).trans hcs.2.2
      have HCC : Hid (∀ wq : World, Below w.heap.size w wq → wq.cell? ⟨g, k * 3 + 1, none⟩ = some (.int .i64 T[k].2.1) ∧ wq.cell? ⟨g, k * 3 + 2, none⟩ = some (.int .i64 T[k].2.2)) := fun wq hq => ⟨(hq.cell (p := ⟨g, k * 3 + 1, none⟩) hgl).trans hcs.2.1, (hq.cell (p := ⟨g, k * 3 + 2, none⟩) hgl).trans hcs.2.2⟩
      have H2 : Hid (rdP r T = if T[k].1 = r then valP T[k] else rdP r (T.drop (k + 1))) := by
        show _ = _
        rw [H.out, List.drop_eq_getElem_cons hlt]; rfl
      have b1 : (0 : Int) ≤ k ∧ (k : Int) < (T.length : Int) := by omega
      clear hcs hb0 HC H
      generalize T[k] = x at *
      obtain ⟨x1, x2, x3⟩ := x
      simp only at d0 d1 d2 H2 HCC
      by_cases h1 : x1 = r
      · have H3 : Hid ((y1, y2, y3) = valP (x1, x2, x3)) := by show _ = _; rw [← HY.out, H2.out, if_pos h1]
        by_cases h2 : x3 = 0
        · have e : valP (x1, x2, x3) = (x2, 0, 1) := by unfold valP; rw [if_pos h2]; simp [h2]
          have H4 := H3.out
          rw [e] at H4
          simp only [Prod.mk.injEq] at H4
          obtain ⟨rfl, rfl, rfl⟩ := H4
          clear H2 H3 HY e
          go_wp2_with fail
          exact bodyPost_ret (v := .tuple #[.agg #[.int .i64 y1, .int .i64 0], .int .i64 1]) (by simp [results, Tryz.results85, go_sem]) rfl ⟨rfl, (Below.refl _ _).alloc (Nat.le_refl _) _⟩
        · have e : valP (x1, x2, x3) = (x2, x3, 2) := by unfold valP; rw [if_neg h2]
          have H4 := H3.out
          rw [e] at H4
          simp only [Prod.mk.injEq] at H4
          obtain ⟨rfl, rfl, rfl⟩ := H4
          clear H2 H3 HY e
          go_wp2_with fail
          go_region_held3 (fun w' => w'.cell? ⟨g, k * 3 + 1, none⟩ = some (.int .i64 y1) ∧ w'.cell? ⟨g, k * 3 + 2, none⟩ = some (.int .i64 y2))
            (first | exact ⟨d1, d2⟩ | exact HCC.out _ ((Below.refl _ _).alloc (Nat.le_refl _) _) | exact HCC.out _ (((Below.refl _ _).drew).alloc (Nat.le_refl _) _) | exact HCC.out _ (((Below.refl _ _).alloc (Nat.le_refl _) _).drew))
            (fail)
          go_wp2_with fail
          exact bodyPost_ret (v := .tuple #[.agg #[.int .i64 y1, .int .i64 y2], .int .i64 2]) (by simp [results, Tryz.results85, go_sem]) rfl ⟨rfl, ((Below.refl _ _).alloc (Nat.le_refl _) _).drew⟩
      · have H3 : Hid (rdP r T = rdP r (T.drop (k + 1))) := by show _ = _; rw [H2.out, if_neg h1]
        clear H2
        go_wp2_with fail
        go_round
        case rel => exact ⟨k + 1, by omega, by go_num, H3.out⟩
        case measure => simp [intOf]; omega
    · have e : k = T.length := by omega
      subst e
      have H3 : (y1, y2, y3) = (0, 0, 0) := by rw [← HY.out, H.out, List.drop_length]; rfl
      simp only [Prod.mk.injEq] at H3
      obtain ⟨rfl, rfl, rfl⟩ := H3
      clear H HC HY
      go_wp2_with fail
      exact bodyPost_ret (v := .tuple #[.agg #[.int .i64 0, .int .i64 0], .int .i64 0]) (by simp [results, Tryz.results85, go_sem]) rfl ⟨rfl, (Below.refl _ _).alloc (Nat.le_refl _) _⟩

/-- Excluded, as the reference tells it. -/
def rexq (T : List R3) (r : Int) : Bool := (rdP r T).2.2 == 1 || exB r

set_option maxHeartbeats 2000000 in
theorem rex_any {w : World} {g cap : Nat} {T : List R3} (h : RR3 w g T) (hl : T.length ≤ 1000) (r : Int) :
    Calls Tryz.prog 97 #[.slice (some ⟨g, 0, none⟩) T.length cap, .int .i64 r] w fun e w' => e = .returned (.bool (rexq T r)) ∧ Below w.heap.size w w' := by
  obtain ⟨y1, y2, y3, hy⟩ : ∃ y1 y2 y3, rdP r T = (y1, y2, y3) := ⟨_, _, _, rfl⟩
  have HD := hid (rdown_any (cap := cap) h hl r hy)
  have E : Hid (rexq T r = (y3 == 1 || exB r)) := by show _ = _; unfold rexq; rw [hy]
  have hok := Ok.start w
  clear h hy
  by_cases h1 : y3 = 1
  · have E2 : Hid (rexq T r = true) := by show _ = _; rw [E.out, h1]; rfl
    subst h1
    go_enter Tryz.func97, Tryz.ntmps97
    go_wp2_with (go_at_call 85; refine HD.out.mono ?_; rintro e w1 ⟨rfl, hb1⟩; replace hok := hok.step hb1; clear hb1)
    go_ret
    exact ⟨ret_bool E2.out.symm, hok.alloc.1⟩
  have h1' : (y3 == 1) = false := by simpa using h1
  by_cases h2 : r = 836
  · have E2 : Hid (rexq T r = true) := by show _ = _; rw [E.out, h1', h2]; rfl
    subst h2
    go_enter Tryz.func97, Tryz.ntmps97
    go_wp2_with (go_at_call 85; refine HD.out.mono ?_; rintro e w1 ⟨rfl, hb1⟩; replace hok := hok.step hb1; clear hb1)
    go_ret
    exact ⟨ret_bool E2.out.symm, hok.alloc.1⟩
  have h2' : (r == 836) = false := by simpa using h2
  by_cases h3 : 2392 ≤ r
  · by_cases h4 : r ≤ 2399
    · have E2 : Hid (rexq T r = true) := by show _ = _; rw [E.out, h1', exB, h2', decide_eq_true h3, decide_eq_true h4]; rfl
      go_enter Tryz.func97, Tryz.ntmps97
      go_wp2_with (go_at_call 85; refine HD.out.mono ?_; rintro e w1 ⟨rfl, hb1⟩; replace hok := hok.step hb1; clear hb1)
      go_ret
      exact ⟨ret_bool E2.out.symm, hok.alloc.1⟩
    · have E2 : Hid (rexq T r = false) := by show _ = _; rw [E.out, h1', exB, h2', decide_eq_false h4, Bool.and_false]; rfl
      go_enter Tryz.func97, Tryz.ntmps97
      go_wp2_with (go_at_call 85; refine HD.out.mono ?_; rintro e w1 ⟨rfl, hb1⟩; replace hok := hok.step hb1; clear hb1)
      go_ret
      exact ⟨ret_bool ((decide_eq_false (by omega)).trans E2.out.symm), hok.alloc.1⟩
  · have E2 : Hid (rexq T r = false) := by show _ = _; rw [E.out, h1', exB, h2', decide_eq_false h3, Bool.false_and]; rfl
    go_enter Tryz.func97, Tryz.ntmps97
    go_wp2_with (go_at_call 85; refine HD.out.mono ?_; rintro e w1 ⟨rfl, hb1⟩; replace hok := hok.step hb1; clear hb1)
    go_ret
    exact ⟨ret_bool E2.out.symm, hok.alloc.1⟩

/-- Is it the second of a row that isn't excluded? -/
def rsB (A : List R3) (r : Int) : List R3 → Bool
  | [] => false
  | x :: l => if x.2.2 = r ∧ r ≠ 0 ∧ rexq A x.1 = false then true else rsB A r l
/-- What two make. -/
def rupP (A : List R3) (a b : Int) : List R3 → Int
  | [] => -1
  | x :: l => if x.2.1 = a ∧ x.2.2 = b ∧ b ≠ 0 ∧ rexq A x.1 = false then x.1 else rupP A a b l


set_option maxHeartbeats 4000000 in
set_option maxRecDepth 100000 in
theorem rup_any {w : World} {g cap : Nat} {T : List R3} (h : RR3 w g T) (hl : T.length ≤ 1000) (a b : Int) :
    Calls Tryz.prog 83 #[.slice (some ⟨g, 0, none⟩) T.length cap, .int .i64 a, .int .i64 b] w fun e w' => e = .returned (.int .i64 (rupP T a b T)) ∧ Below w.heap.size w w' := by
  have HC := hid h
  have HX := hid (fun (w : World) (h : RR3 w g T) (r : Int) => rex_any (cap := cap) h hl r)
  clear h
  go_enter Tryz.func83, Tryz.ntmps83
  go_wp2_with fail
  go_loopg [7] T.length (fun gg i wr => ∃ k : Nat, k ≤ T.length ∧ gg = T.length - k ∧ i = .int .i64 k ∧ Hid (rupP T a b T = rupP T a b (T.drop k)) ∧ Hid (Below w.heap.size w wr))
  case atStart => exact ⟨0, Nat.zero_le _, by omega, rfl, rfl, Below.refl _ _⟩
  case round =>
    obtain ⟨k, hk, hg, rfl, H, HB⟩ := hrel
    have HG := hid hg
    clear hg
    by_cases hlt : k < T.length
    · have HRw := hid (HC.out.step HB.out)
      obtain ⟨d0, d1, d2⟩ := HRw.out.2 k hlt
      have HRq := hid (fun (w' : World) (hq : Below w.heap.size w w') => (HC.out.step hq).2 k hlt)
      have H2 : Hid (rupP T a b T = if T[k].2.1 = a ∧ T[k].2.2 = b ∧ b ≠ 0 ∧ rexq T T[k].1 = false then T[k].1 else rupP T a b (T.drop (k + 1))) := by
        show _ = _
        rw [H.out, List.drop_eq_getElem_cons hlt]; rfl
      have b1 : (0 : Int) ≤ k ∧ (k : Int) < (T.length : Int) := by omega
      clear HC H
      generalize T[k] = x at *
      obtain ⟨x1, x2, x3⟩ := x
      simp only at d0 d1 d2 H2 HRq
      by_cases h0 : x2 = a
      · by_cases h1 : x3 = b
        · by_cases h2 : b = 0
          · have H3 : Hid (rupP T a b T = rupP T a b (T.drop (k + 1))) := by show _ = _; rw [H2.out, if_neg (fun h => h.2.2.1 h2)]
            have h2' : (b != 0) = false := by simp [h2]
            subst h0
            subst h1
            clear H2 h2
            go_wp2_with fail
            go_roundg (T.length - (k + 1))
            case measure => rw [HG.out]; omega
            case rel => exact ⟨k + 1, by omega, rfl, by go_num, H3.out, HB.out⟩
          · have h2' : (b != 0) = true := by simpa using h2
            subst h0
            subst h1
            cases he : rexq T x1 with
            | false =>
              have H3 : Hid (rupP T x2 x3 T = x1) := by show _ = _; rw [H2.out, if_pos ⟨rfl, rfl, h2, he⟩]
              clear H2
              go_wp2_with (go_at_call 97; refine (HX.out _ HRw.out _).mono ?_; rintro e w1 ⟨rfl, hb1⟩; replace HB := hid (HB.out.trans (hb1.mono HB.out.size)); clear hb1; obtain ⟨z0, z1, z2⟩ := HRq.out _ HB.out)
              go_ret
              exact ⟨ret_int H3.out.symm, HB.out⟩
            | true =>
              have H3 : Hid (rupP T x2 x3 T = rupP T x2 x3 (T.drop (k + 1))) := by show _ = _; rw [H2.out, if_neg (fun h => by rw [he] at h; exact absurd h.2.2.2 (by simp))]
              clear H2
              go_wp2_with (go_at_call 97; refine (HX.out _ HRw.out _).mono ?_; rintro e w1 ⟨rfl, hb1⟩; replace HB := hid (HB.out.trans (hb1.mono HB.out.size)); clear hb1; obtain ⟨z0, z1, z2⟩ := HRq.out _ HB.out)
              go_roundg (T.length - (k + 1))
              case measure => rw [HG.out]; omega
              case rel => exact ⟨k + 1, by omega, rfl, by go_num, H3.out, HB.out⟩
        · have H3 : Hid (rupP T a b T = rupP T a b (T.drop (k + 1))) := by show _ = _; rw [H2.out, if_neg (fun h => h1 h.2.1)]
          have h1' : (x3 == b) = false := by simpa using h1
          subst h0
          clear H2
          go_wp2_with fail
          go_roundg (T.length - (k + 1))
          case measure => rw [HG.out]; omega
          case rel => exact ⟨k + 1, by omega, rfl, by go_num, H3.out, HB.out⟩
      · have H3 : Hid (rupP T a b T = rupP T a b (T.drop (k + 1))) := by show _ = _; rw [H2.out, if_neg (fun h => h0 h.1)]
        have h0' : (x2 == a) = false := by simpa using h0
        clear H2
        go_wp2_with fail
        go_roundg (T.length - (k + 1))
        case measure => rw [HG.out]; omega
        case rel => exact ⟨k + 1, by omega, rfl, by go_num, H3.out, HB.out⟩
    · have e : k = T.length := by omega
      subst e
      have H3 : Hid (rupP T a b T = -1) := by show _ = _; rw [H.out, List.drop_length]; rfl
      clear H HC
      go_wp2_with fail
      go_ret
      exact ⟨ret_int H3.out.symm, HB.out⟩
end Go.Proofs.YtemdmalcoemhnabGreat.Pr

namespace Go.Proofs.YtemdmalcoemhnabGreat.Pr
open Go.RowKit

theorem rd_of_mem : ∀ (L : List R3), distB L = true → ∀ x ∈ L, rdP x.1 L = valP x
  | [], _, x, hx => by simp at hx
  | y :: L, hd, x, hx => by
    simp only [distB, Bool.and_eq_true] at hd
    unfold rdP
    rcases List.mem_cons.1 hx with rfl | hx
    · rw [if_pos rfl]
    · have := List.all_eq_true.1 hd.1 x hx
      rw [if_neg (fun e => by simp [e] at this)]
      exact rd_of_mem L hd.2 x hx
theorem rd_none (r : Int) : ∀ (L : List R3), (∀ x ∈ L, x.1 ≠ r) → rdP r L = (0, 0, 0)
  | [], _ => rfl
  | y :: L, h => by
    unfold rdP
    rw [if_neg (h y (by simp))]
    exact rd_none r L (fun x hx => h x (by simp [hx]))
theorem rd_dn (r : Int) : rdP r allP = (dnF allP r).getD (0, 0, 0) := by
  cases hd : dnF allP r with
  | some v =>
    obtain ⟨R, hR, rfl, rfl⟩ := dn_mem allP r v hd
    exact rd_of_mem allP all_dist R hR
  | none =>
    refine rd_none r allP (fun x hx e => ?_)
    have := dn_of_mem allP all_dist x hx
    rw [e, hd] at this; cases this
theorem rex_eq (r : Int) : rexq allP r = exq r := by unfold rexq exq exF; rw [rd_dn]
theorem rex_skip (x : R3) (hx : x ∈ allP) : rexq allP x.1 = skipB x := by
  unfold rexq skipB
  rw [rd_of_mem allP all_dist x hx]
  unfold valP
  simp only
  by_cases h : x.2.2 = 0
  · rw [if_pos h, h]; rfl
  · rw [if_neg h]
    have : (x.2.2 == 0) = false := by simpa using h
    rw [this]; rfl
theorem rs_any (r : Int) : ∀ (L : List R3), (∀ x ∈ L, x ∈ allP) → (rsB allP r L = true ↔ ∃ x ∈ L, skipB x = false ∧ x.2.2 = r)
  | [], _ => by simp [rsB]
  | y :: L, h => by
    have ih := rs_any r L (fun x hx => h x (by simp [hx]))
    unfold rsB
    rw [rex_skip y (h y (by simp))]
    split
    · rename_i hh
      constructor
      · intro _; exact ⟨y, by simp, hh.2.2, hh.1⟩
      · intro _; rfl
    · rename_i hh
      rw [ih]
      constructor
      · rintro ⟨x, hx, h1⟩; exact ⟨x, by simp [hx], h1⟩
      · rintro ⟨x, hx, h1, h2⟩
        rcases List.mem_cons.1 hx with rfl | hx
        · exfalso
          have h3 : x.2.2 ≠ 0 := by
            unfold skipB at h1
            rw [Bool.or_eq_false_iff] at h1
            simpa using h1.1
          exact hh ⟨h2, by rw [← h2]; exact h3, h1⟩
        · exact ⟨x, hx, h1, h2⟩
theorem rs_eq (r : Int) : rsB allP r allP = s1 r := by
  rw [Bool.eq_iff_iff, rs_any r allP (fun _ h => h)]
  unfold s1
  rw [decide_eq_true_eq, sc_pos]

theorem rup_mem (a b : Int) : ∀ (L : List R3), (∀ x ∈ L, x ∈ allP) → (∃ x ∈ L, skipB x = false ∧ x.2.1 = a ∧ x.2.2 = b ∧ rupP allP a b L = x.1) ∨ ((∀ x ∈ L, ¬ (skipB x = false ∧ x.2.1 = a ∧ x.2.2 = b)) ∧ rupP allP a b L = -1)
  | [], _ => .inr ⟨fun x hx => by simp at hx, rfl⟩
  | y :: L, h => by
    unfold rupP
    rw [rex_skip y (h y (by simp))]
    split
    · rename_i hh
      exact .inl ⟨y, by simp, hh.2.2.2, hh.1, hh.2.1, rfl⟩
    · rename_i hh
      rcases rup_mem a b L (fun x hx => h x (by simp [hx])) with ⟨x, hx, h1⟩ | ⟨h1, h2⟩
      · exact .inl ⟨x, by simp [hx], h1⟩
      · refine .inr ⟨fun x hx hc => ?_, h2⟩
        rcases List.mem_cons.1 hx with rfl | hx
        · have h3 : x.2.2 ≠ 0 := by
            have h4 := hc.1
            unfold skipB at h4
            rw [Bool.or_eq_false_iff] at h4
            simpa using h4.1
          exact hh ⟨hc.2.1, hc.2.2, by rw [← hc.2.2]; exact h3, hc.1⟩
        · exact h1 x hx hc
theorem rup_eq (a b : Int) : (u2 a b = true ∧ rupP allP a b allP = u1 a b ∧ 0 ≤ u1 a b) ∨ (u2 a b = false ∧ u1 a b = 0 ∧ rupP allP a b allP = -1) := by
  rcases rup_mem a b allP (fun _ h => h) with ⟨x, hx, h1, h2, h3, h4⟩ | ⟨h1, h2⟩
  · have := up_of_mem allP all_udist x hx h1
    rw [h2, h3] at this
    left
    unfold u1 u2
    rw [this]
    refine ⟨rfl, h4, ?_⟩
    have := List.all_eq_true.1 all_okR x hx
    simp only [okR, Bool.and_eq_true, decide_eq_true_eq] at this
    show 0 ≤ x.1
    omega
  · right
    have hn : upF allP (a, b) = none := by
      cases hu : upF allP (a, b) with
      | none => rfl
      | some z =>
        obtain ⟨R, hR, hs, e, _⟩ := up_mem allP _ z hu
        simp only [Prod.mk.injEq] at e
        exact absurd ⟨hs, e.1.symm, e.2.symm⟩ (h1 R hR)
    unfold u1 u2
    rw [hn]
    exact ⟨rfl, rfl, h2⟩
end Go.Proofs.YtemdmalcoemhnabGreat.Pr
