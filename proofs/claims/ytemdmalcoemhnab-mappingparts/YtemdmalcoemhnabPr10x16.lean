import Derived.Test.YtemdmalcoemhnabPr9
import Derived.Great.CaseRows
namespace Go.Proofs.Ytemdmalcoemhnab.Pr
open Go.RowKit Go.Lib
theorem run_index_agg {P : Program} (w : World) (t e : TypeId) (n : Nat) (ty : TypeInfo) (cs : Array Value) (k : IntKind) (i : Nat) (ht : P.underlying t = some (.array n e)) (hi : P.info? e = some ty) (h : i < n) :
    (Instr.index t (.agg cs) (.int k (i : Int))).run P w = (part e cs (i * ty.size)).run P w := by
  simp [Instr.index, asIntOf, run_underlying ht, sizeOf, typeInfo, hi]
  intro hn
  omega

theorem c4_len (l : List S4) : (l.flatMap c4).length = l.length * 4 := by
  induction l with
  | nil => rfl
  | cons x l ih => simp only [List.flatMap_cons, List.length_append, ih, List.length_cons, c4, List.length_nil]; omega
theorem c4_cut : ∀ (l : List S4) (k : Nat) (h : k < l.length), ((l.flatMap c4).drop (k * 4)).take 4 = c4 l[k]
  | [], _, h => by simp at h
  | x :: l, 0, _ => by simp [c4]
  | x :: l, k + 1, h => by
    have ih := c4_cut l k (by simpa using h)
    rw [List.flatMap_cons, List.drop_append, show (k + 1) * 4 - (c4 x).length = k * 4 by simp [c4]; omega, List.drop_of_length_le (by simp [c4]; omega), List.nil_append]
    exact ih

theorem index_span (w : World) (k : Nat) (h : k < 27) (h' : k < spanT.length) : (Instr.index 96 (.agg spC) (.int .i64 (k : Int))).run Try.prog w = .ok (.agg #[.int .i32 spanT[k].1, .int .i32 spanT[k].2.1, .int .i32 spanT[k].2.2.1, .int .i32 spanT[k].2.2.2]) w := by
  have hs : (Try.prog.info? 95).map (fun i => i.size) = some 4 := by kernel_rfl
  obtain ⟨i, hi, hz⟩ := Option.map_eq_some_iff.1 hs
  rw [run_index_agg w 96 95 27 i spC .i64 k Try.underlying96 hi h, hz]
  have e : spC.extract (k * 4) (k * 4 + 4) = #[.int .i32 spanT[k].1, .int .i32 spanT[k].2.1, .int .i32 spanT[k].2.2.1, .int .i32 spanT[k].2.2.2] := by
    apply Array.ext'
    rw [Array.toList_extract, List.extract]
    show ((spanT.flatMap c4).drop (k * 4)).take (k * 4 + 4 - k * 4) = _
    rw [show k * 4 + 4 - k * 4 = 4 by omega, c4_cut spanT k h']
    rfl
  simp [part, isAgg, run_underlying Try.underlying95, sizeOf, typeInfo, hi, hz, e]

theorem index_kana (w : World) (k : Nat) (h : k < 58) (h' : k < kanaT.length) : (Instr.index 98 (.agg kaC) (.int .i32 (k : Int))).run Try.prog w = .ok (.int .i32 kanaT[k]) w := by
  have hs : (Try.prog.info? 21).map (fun i => i.size) = some 1 := by kernel_rfl
  obtain ⟨i, hi, hz⟩ := Option.map_eq_some_iff.1 hs
  rw [run_index_agg w 98 21 58 i kaC .i32 k Try.underlying98 hi h, hz, Nat.mul_one]
  have e : kaC[k]? = some (.int .i32 kanaT[k]) := by
    unfold kaC
    simp [h']
  simp [part, isAgg, run_underlying Try.underlying21, e]
/-- In lower case. -/
def lowP (r : Int) : List S4 → Int
  | [] => r
  | x :: xs => if x.1 ≤ r ∧ r ≤ x.2.1 ∧ (r - x.1) % x.2.2.1 = 0 then r + x.2.2.2 else lowP r xs
/-- In its usual width. -/
def widP (r : Int) : Int :=
  if 65281 ≤ r ∧ r ≤ 65374 then r - 65281 + 33 else if r = 65377 then 12290 else if r = 65381 then 12539 else if 65382 ≤ r ∧ r ≤ 65439 then kanaT.getD (r - 65382).toNat 0 else r

def spanOk (x : S4) : Bool := decide (0 ≤ x.1 ∧ x.1 ≤ 70000 ∧ 0 ≤ x.2.1 ∧ x.2.1 ≤ 70000 ∧ 1 ≤ x.2.2.1 ∧ x.2.2.1 ≤ 2 ∧ -10000 ≤ x.2.2.2 ∧ x.2.2.2 ≤ 10000)
theorem span_all : spanT.all spanOk = true := by kernel_rfl
theorem span_bd (x : S4) (h : x ∈ spanT) : 0 ≤ x.1 ∧ x.1 ≤ 70000 ∧ 0 ≤ x.2.1 ∧ x.2.1 ≤ 70000 ∧ 1 ≤ x.2.2.1 ∧ x.2.2.1 ≤ 2 ∧ -10000 ≤ x.2.2.2 ∧ x.2.2.2 ≤ 10000 := by
  have h1 := List.all_eq_true.1 span_all x h
  unfold spanOk at h1
  have h2 := of_decide_eq_true h1
  exact h2
theorem span_len : spanT.length = 27 := rfl

set_option maxHeartbeats 4000000 in
set_option maxRecDepth 100000 in
theorem low_any (r : Int) (w : World) (hr : I32 r) : Calls Try.prog 23 #[.int .i32 r] w fun e w' => e = .returned (.int .i32 (lowP r spanT)) ∧ Below w.heap.size w w' := by
  obtain ⟨r0, r1⟩ := hr
  have HS := hid (spans_any w)
  have HI := hid index_span
  have HB0 := hid span_bd
  have HLn := hid span_len
  have h27 : spanT.length ≤ 27 := by rw [span_len]; decide
  generalize spC = A at *
  generalize spanT = T at *
  go_enter Try.func23, Try.ntmps23
  go_wp2_with fail
  refine HS.out.mono ?_
  rintro e w1 ⟨rfl, hb1⟩
  have HB1 := hid hb1
  clear hb1 HS
  go_wp2_with fail
  go_loopg [6] 27 (fun g i wr => ∃ k : Nat, k ≤ 27 ∧ g = 27 - k ∧ i = .int .i64 k ∧ Hid (lowP r T = lowP r (T.drop k)) ∧ Hid (Below w.heap.size w wr))
  case atStart => exact ⟨0, by omega, by omega, rfl, rfl, HB1.out⟩
  case round =>
    clear HB1
    obtain ⟨k, hk, hg, rfl, H, HB⟩ := hrel
    have HG := hid hg
    clear hg
    by_cases hlt : k < 27
    · have hlT : k < T.length := by have := HLn.out; omega
      have hix := fun w => HI.out w k hlt hlT
      have ⟨e0, e1, e2, e3, e4, e5, e6, e7⟩ := HB0.out T[k] (List.getElem_mem hlT)
      have H2 : Hid (lowP r T = if T[k].1 ≤ r ∧ r ≤ T[k].2.1 ∧ (r - T[k].1) % T[k].2.2.1 = 0 then r + T[k].2.2.2 else lowP r (T.drop (k + 1))) := by
        show _ = _
        rw [H.out, List.drop_eq_getElem_cons hlT]; rfl
      have HBA := hid (fun o => HB.out.alloc HB.out.size o)
      clear HI HB0 H HB
      generalize T[k] = x at *
      obtain ⟨x1, x2, x3, x4⟩ := x
      simp only at hix e0 e1 e2 e3 e4 e5 e6 e7 H2
      by_cases h1 : x1 ≤ r
      · by_cases h2 : r ≤ x2
        · by_cases h3 : (r - x1) % x3 = 0
          · have H3 : Hid (lowP r T = r + x4) := by show _ = _; rw [H2.out, if_pos ⟨h1, h2, h3⟩]
            go_wp2_with fail
            go_ret
            exact ⟨ret_int H3.out.symm, HBA.out _⟩
          · have H3 : Hid (lowP r T = lowP r (T.drop (k + 1))) := by show _ = _; rw [H2.out, if_neg (fun h => h3 h.2.2)]
            have h3' : ((r - x1) % x3 == 0) = false := by simpa using h3
            go_wp2_with fail
            go_roundg (27 - (k + 1))
            case measure => rw [HG.out]; omega
            case rel => exact ⟨k + 1, by omega, rfl, by go_num, H3.out, HBA.out _⟩
        · have H3 : Hid (lowP r T = lowP r (T.drop (k + 1))) := by show _ = _; rw [H2.out, if_neg (fun h => h2 h.2.1)]
          go_wp2_with fail
          go_roundg (27 - (k + 1))
          case measure => rw [HG.out]; omega
          case rel => exact ⟨k + 1, by omega, rfl, by go_num, H3.out, HBA.out _⟩
      · have H3 : Hid (lowP r T = lowP r (T.drop (k + 1))) := by show _ = _; rw [H2.out, if_neg (fun h => h1 h.1)]
        go_wp2_with fail
        go_roundg (27 - (k + 1))
        case measure => rw [HG.out]; omega
        case rel => exact ⟨k + 1, by omega, rfl, by go_num, H3.out, HBA.out _⟩
    · have H3 : Hid (lowP r T = r) := by show _ = _; rw [H.out, List.drop_of_length_le (by omega)]; rfl
      go_wp2_with fail
      go_ret
      exact ⟨ret_int H3.out.symm, HB.out⟩

set_option maxHeartbeats 2000000 in
theorem wid_any (r : Int) (w : World) (hr : I32 r) : Calls Try.prog 24 #[.int .i32 r] w fun e w' => e = .returned (.int .i32 (widP r)) ∧ Below w.heap.size w w' := by
  obtain ⟨r0, r1⟩ := hr
  have HK := hid (kana_any w)
  have hok := Ok.start w
  by_cases h1 : 65281 ≤ r ∧ r ≤ 65374
  · have H : Hid (widP r = r - 65281 + 33) := if_pos h1
    obtain ⟨h1, h2⟩ := h1
    go_enter Try.func24, Try.ntmps24
    go_wp2_with fail
    go_ret
    exact ⟨ret_int H.out.symm, hok.1⟩
  by_cases h2 : r = 65377
  · have H : Hid (widP r = 12290) := by subst h2; rfl
    clear h1
    subst h2
    go_enter Try.func24, Try.ntmps24
    go_wp2_with fail
    go_ret
    exact ⟨ret_int H.out.symm, hok.1⟩
  by_cases h3 : r = 65381
  · have H : Hid (widP r = 12539) := by subst h3; rfl
    clear h1 h2
    subst h3
    go_enter Try.func24, Try.ntmps24
    go_wp2_with fail
    go_ret
    exact ⟨ret_int H.out.symm, hok.1⟩
  by_cases h4 : 65382 ≤ r ∧ r ≤ 65439
  · obtain ⟨k, hk⟩ : ∃ k : Nat, r - 65382 = k := ⟨(r - 65382).toNat, by omega⟩
    have hk1 : k < 58 := by omega
    have hk2 : k < kanaT.length := hk1
    have H : Hid (widP r = kanaT[k]) := by
      show widP r = _
      unfold widP
      rw [if_neg h1, if_neg h2, if_neg h3, if_pos h4, hk, Int.toNat_natCast, List.getD_eq_getElem?_getD, List.getElem?_eq_getElem hk2]; rfl
    have hix := fun w => index_kana w k hk1 hk2
    obtain ⟨h5, h6⟩ := h4
    have h7 : ¬ r ≤ 65374 := by omega
    have h8 : 65281 ≤ r := by omega
    clear h1
    generalize kanaT[k] = v at *
    generalize kaC = A at *
    go_enter Try.func24, Try.ntmps24
    go_wp2_with (go_at_call 42; refine HK.out.mono ?_; rintro e w1 ⟨rfl, hb1⟩; replace hok := hok.step hb1; clear hb1)
    go_ret
    exact ⟨ret_int H.out.symm, hok.1⟩
  · have H : Hid (widP r = r) := by show widP r = r; unfold widP; rw [if_neg h1, if_neg h2, if_neg h3, if_neg h4]
    have hc : r < 65281 ∨ (65281 ≤ r ∧ 65374 < r ∧ r < 65382) ∨ (65382 ≤ r ∧ 65439 < r) := by omega
    have h2' : (r == 65377) = false := by simpa using h2
    have h3' : (r == 65381) = false := by simpa using h3
    clear h1 h4
    rcases hc with h | ⟨h, h', h''⟩ | ⟨h, h'⟩
    all_goals
      go_enter Try.func24, Try.ntmps24
      go_wp2_with fail
      go_ret
      exact ⟨ret_int H.out.symm, hok.1⟩
end Go.Proofs.Ytemdmalcoemhnab.Pr

namespace Go.Proofs.Ytemdmalcoemhnab.Pr
open Go.RowKit Go.Lib
theorem rc4_at : ∀ (l : List S4) (j i : Nat) (h : j < l.length), i < 4 → (l.flatMap rc4)[j * 4 + i]? = (rc4 l[j])[i]?
  | [], _, _, h, _ => by simp at h
  | x :: l, 0, i, _, hi => by
    simp only [List.flatMap_cons, Nat.zero_mul, Nat.zero_add, List.getElem_cons_zero]
    rw [List.getElem?_append_left (by simp [rc4]; omega)]
  | x :: l, j + 1, i, h, hi => by
    have := rc4_at l j i (by simpa using h) hi
    rw [List.flatMap_cons, List.getElem?_append_right (by simp [rc4]; omega)]
    rw [show (j + 1) * 4 + i - (rc4 x).length = j * 4 + i by simp [rc4]; omega, this]
    rfl
theorem cell_new (w : World) (cs : Array Value) (t : TypeId) (b j : Nat) (hb : b = w.heap.size) : (w.alloc (.cells cs t)).cell? ⟨b, j, none⟩ = cs[j]? := by
  have h := heap_alloc_new w (.cells cs t)
  subst hb
  unfold World.cell?
  rw [h]; rfl
theorem shift_cells (w : World) (t : TypeId) (k : Nat) (hk : k < spanT.length) (i : Nat) (hi : i < 4) : (w.alloc (.cells rspC t)).cell? ⟨w.heap.size, k * 4 + i, none⟩ = (rc4 spanT[k])[i]? := by
  rw [cell_new _ _ _ _ _ rfl, rspC, List.getElem?_toArray, rc4_at spanT k i hk hi]

end Go.Proofs.Ytemdmalcoemhnab.Pr

namespace Go.Proofs.Ytemdmalcoemhnab.Pr
open Go.RowKit Go.Lib

theorem dist_snoc : ∀ (M : List R3) (y : R3), distB (M ++ [y]) = true → distB M = true ∧ ∀ m ∈ M, m.1 ≠ y.1
  | [], y, _ => ⟨rfl, fun m hm => by simp at hm⟩
  | x :: M, y, h => by
    simp only [List.cons_append, distB, Bool.and_eq_true] at h
    have ih := dist_snoc M y h.2
    have ha := List.all_eq_true.1 h.1
    refine ⟨?_, fun m hm => ?_⟩
    · simp only [distB, Bool.and_eq_true]
      exact ⟨List.all_eq_true.2 (fun z hz => ha z (by simp [hz])), ih.1⟩
    · rcases List.mem_cons.1 hm with rfl | hm
      · have := ha y (by simp)
        intro e
        simp [e] at this
      · exact ih.2 m hm

theorem dn_of_mem (L : List R3) : distB L = true → ∀ x ∈ L, dnF L x.1 = some (valP x) := by
  refine snoc_ind (P := fun L => distB L = true → ∀ x ∈ L, dnF L x.1 = some (valP x)) (fun _ x hx => by simp at hx) (fun M y ih hd x hx => ?_) L
  have h := dist_snoc M y hd
  rw [dn_snoc]
  show (if x.1 = y.1 then some (valP y) else dnF M x.1) = _
  rcases List.mem_append.1 hx with hm | hm
  · rw [if_neg (h.2 x hm)]; exact ih h.1 x hm
  · simp at hm; subst hm; rw [if_pos rfl]
theorem dn_mem (L : List R3) (r : Int) (v : Pt) : dnF L r = some v → ∃ x ∈ L, x.1 = r ∧ v = valP x := by
  refine snoc_ind (P := fun L => dnF L r = some v → ∃ x ∈ L, x.1 = r ∧ v = valP x) (fun h => by simp [dnF] at h) (fun M y ih h => ?_) L
  rw [dn_snoc] at h
  have h' : (if r = y.1 then some (valP y) else dnF M r) = some v := h
  split at h'
  · rename_i e
    exact ⟨y, by simp, e.symm, (Option.some.inj h').symm⟩
  · obtain ⟨x, hx, h1, h2⟩ := ih h'
    exact ⟨x, by simp [hx], h1, h2⟩

/-- No two rows that are put together have the same two. -/
def udistB : List R3 → Bool
  | [] => true
  | x :: l => (skipB x || l.all (fun y => skipB y || !(y.2.1 == x.2.1 && y.2.2 == x.2.2))) && udistB l
set_option maxRecDepth 1000000 in
theorem all_udist : udistB allP = true := by kernel_rfl
theorem udist_snoc : ∀ (M : List R3) (y : R3), udistB (M ++ [y]) = true → udistB M = true ∧ (skipB y = false → ∀ m ∈ M, skipB m = false → ¬ (m.2.1 = y.2.1 ∧ m.2.2 = y.2.2))
  | [], y, _ => ⟨rfl, fun _ m hm => by simp at hm⟩
  | x :: M, y, h => by
    simp only [List.cons_append, udistB, Bool.and_eq_true] at h
    have ih := udist_snoc M y h.2
    refine ⟨?_, fun hy m hm hs => ?_⟩
    · simp only [udistB, Bool.and_eq_true]
      refine ⟨?_, ih.1⟩
      rcases Bool.or_eq_true_iff.1 h.1 with h1 | h1
      · rw [h1]; rfl
      · rw [Bool.or_eq_true]
        exact .inr (List.all_eq_true.2 (fun z hz => List.all_eq_true.1 h1 z (by simp [hz])))
    · rcases List.mem_cons.1 hm with rfl | hm
      · rcases Bool.or_eq_true_iff.1 h.1 with h1 | h1
        · rw [hs] at h1; cases h1
        · have := List.all_eq_true.1 h1 y (by simp)
          rw [hy] at this
          rintro ⟨e1, e2⟩
          simp [e1, e2] at this
      · exact ih.2 hy m hm hs

theorem up_of_mem (L : List R3) : udistB L = true → ∀ x ∈ L, skipB x = false → upF L (x.2.1, x.2.2) = some x.1 := by
  refine snoc_ind (P := fun L => udistB L = true → ∀ x ∈ L, skipB x = false → upF L (x.2.1, x.2.2) = some x.1) (fun _ x hx => by simp at hx) (fun M y ih hd x hx hs => ?_) L
  have h := udist_snoc M y hd
  rw [up_snoc]
  show (if skipB y = true then upF M (x.2.1, x.2.2) else if (x.2.1, x.2.2) = (y.2.1, y.2.2) then some y.1 else upF M (x.2.1, x.2.2)) = _
  rcases List.mem_append.1 hx with hm | hm
  · split
    · exact ih h.1 x hm hs
    · rename_i hy
      have hy' : skipB y = false := by simpa using hy
      have := h.2 hy' x hm hs
      rw [if_neg (fun e => this (by simpa using e))]
      exact ih h.1 x hm hs
  · simp at hm; subst hm
    rw [if_neg (by simp [hs]), if_pos rfl]
theorem up_mem (L : List R3) (k : Int × Int) (z : Int) : upF L k = some z → ∃ x ∈ L, skipB x = false ∧ k = (x.2.1, x.2.2) ∧ z = x.1 := by
  refine snoc_ind (P := fun L => upF L k = some z → ∃ x ∈ L, skipB x = false ∧ k = (x.2.1, x.2.2) ∧ z = x.1) (fun h => by simp [upF] at h) (fun M y ih h => ?_) L
  rw [up_snoc] at h
  have h' : (if skipB y = true then upF M k else if k = (y.2.1, y.2.2) then some y.1 else upF M k) = some z := h
  split at h'
  · obtain ⟨x, hx, h1⟩ := ih h'
    exact ⟨x, by simp [hx], h1⟩
  · rename_i hy
    split at h'
    · rename_i e
      exact ⟨y, by simp, by simpa using hy, e, (Option.some.inj h').symm⟩
    · obtain ⟨x, hx, h1⟩ := ih h'
      exact ⟨x, by simp [hx], h1⟩
theorem sc_pos (L : List R3) (r : Int) : 0 < (scF L r).getD 0 ↔ ∃ x ∈ L, skipB x = false ∧ x.2.2 = r := by
  refine snoc_ind (P := fun L => 0 < (scF L r).getD 0 ↔ ∃ x ∈ L, skipB x = false ∧ x.2.2 = r) (by simp [scF]) (fun M y ih => ?_) L
  rw [sc_snoc]
  show 0 < (if skipB y = true then scF M r else if r = y.2.2 then some ((scF M y.2.2).getD 0 + 1) else scF M r).getD 0 ↔ _
  have hex : (∃ x ∈ M ++ [y], skipB x = false ∧ x.2.2 = r) ↔ (∃ x ∈ M, skipB x = false ∧ x.2.2 = r) ∨ (skipB y = false ∧ y.2.2 = r) := by
    constructor
    · rintro ⟨x, hx, h⟩
      rcases List.mem_append.1 hx with hm | hm
      · exact .inl ⟨x, hm, h⟩
      · simp at hm; subst hm; exact .inr h
    · rintro (⟨x, hx, h⟩ | h)
      · exact ⟨x, by simp [hx], h⟩
      · exact ⟨y, by simp, h⟩
  rw [hex]
  split
  · rename_i hy
    rw [ih]
    constructor
    · exact .inl
    · rintro (h | ⟨h, _⟩)
      · exact h
      · rw [hy] at h; cases h
  · rename_i hy
    have hy' : skipB y = false := by simpa using hy
    split
    · rename_i e
      have := (sc_bd y.2.2 M).1
      simp only [Option.getD_some]
      constructor
      · intro _; exact .inr ⟨hy', e.symm⟩
      · intro _; omega
    · rename_i e
      rw [ih]
      constructor
      · exact .inl
      · rintro (h | ⟨_, h⟩)
        · exact h
        · exact absurd h.symm e

/-- What is made of two is made by them, or is never put together. -/
theorem back1 (r x y : Int) (h : dnF allP r = some (x, y, 2)) (hx : exB r = false) : upF allP (x, y) = some r := by
  obtain ⟨R, hR, e1, e2⟩ := dn_mem allP r _ h
  unfold valP at e2
  simp only [Prod.mk.injEq] at e2
  obtain ⟨a1, a2, a3⟩ := e2
  have h0 : R.2.2 ≠ 0 := fun e => by rw [if_pos e] at a3; cases a3
  have hs : skipB R = false := by
    unfold skipB
    rw [e1, hx]
    simp [h0]
  have := up_of_mem allP all_udist R hR hs
  rw [a1, a2, ← e1]; exact this
theorem back2 (a b z : Int) (h : upF allP (a, b) = some z) : dnF allP z = some (a, b, 2) ∧ exB z = false := by
  obtain ⟨R, hR, hs, e1, rfl⟩ := up_mem allP _ _ h
  simp only [Prod.mk.injEq] at e1
  have hs' := hs
  unfold skipB at hs'
  rw [Bool.or_eq_false_iff] at hs'
  refine ⟨?_, hs'.2⟩
  rw [dn_of_mem allP all_dist R hR]
  unfold valP
  rw [if_neg (by simpa using hs'.1), e1.1, e1.2]

/-- Told twice it is as told once. -/
def inSpan (r : Int) : Bool := spanT.any (fun x => decide (x.1 ≤ r) && decide (r ≤ x.2.1))
theorem low_out (r : Int) : ∀ (T : List S4), T.any (fun x => decide (x.1 ≤ r) && decide (r ≤ x.2.1)) = false → lowP r T = r
  | [], _ => rfl
  | x :: T, h => by
    rw [List.any_cons, Bool.or_eq_false_iff] at h
    unfold lowP
    rw [if_neg (fun hh => by simp [hh.1, hh.2.1] at h), low_out r T h.2]
def spanEach (x : S4) : Bool := (List.range (x.2.1 - x.1 + 1).toNat).all (fun i => lowP (lowP (x.1 + (i : Nat)) spanT) spanT == lowP (x.1 + (i : Nat)) spanT && decide (0 ≤ lowP (x.1 + (i : Nat)) spanT) && decide (lowP (x.1 + (i : Nat)) spanT ≤ 100000))
set_option maxRecDepth 1000000 in
theorem span_each : spanT.all spanEach = true := by kernel_rfl
theorem low_facts (r : Int) (hr : I32 r) : lowP (lowP r spanT) spanT = lowP r spanT ∧ I32 (lowP r spanT) := by
  cases h : inSpan r with
  | false =>
    have := low_out r spanT h
    rw [this]; exact ⟨this, hr⟩
  | true =>
    obtain ⟨x, hx, hh⟩ := List.any_eq_true.1 h
    rw [Bool.and_eq_true, decide_eq_true_eq, decide_eq_true_eq] at hh
    have h1 := List.all_eq_true.1 span_each x hx
    have h2 := List.all_eq_true.1 h1 (r - x.1).toNat (List.mem_range.2 (by omega))
    rw [show x.1 + ((r - x.1).toNat : Int) = r by omega] at h2
    simp only [Bool.and_eq_true, beq_iff_eq, decide_eq_true_eq] at h2
    refine ⟨h2.1.1, ?_⟩
    unfold I32
    omega
def kanaOk (v : Int) : Bool := widP v == v && decide (0 ≤ v) && decide (v ≤ 100000)
set_option maxRecDepth 1000000 in
theorem kana_each : kanaT.all kanaOk = true := by kernel_rfl
theorem wid_facts (r : Int) (hr : I32 r) : widP (widP r) = widP r ∧ I32 (widP r) := by
  have hr' := hr
  unfold I32 at hr'
  by_cases h1 : 65281 ≤ r ∧ r ≤ 65374
  · have e : widP r = r - 65281 + 33 := if_pos h1
    rw [e]
    refine ⟨?_, by unfold I32; omega⟩
    unfold widP
    rw [if_neg (by omega), if_neg (by omega), if_neg (by omega), if_neg (by omega)]
  by_cases h2 : r = 65377
  · subst h2; exact ⟨rfl, by unfold I32; exact ⟨by decide, by decide⟩⟩
  by_cases h3 : r = 65381
  · subst h3; exact ⟨rfl, by unfold I32; exact ⟨by decide, by decide⟩⟩
  by_cases h4 : 65382 ≤ r ∧ r ≤ 65439
  · have e : widP r = kanaT.getD (r - 65382).toNat 0 := by unfold widP; rw [if_neg h1, if_neg h2, if_neg h3, if_pos h4]
    have hk : (r - 65382).toNat < kanaT.length := by show _ < 58; omega
    rw [List.getD_eq_getElem?_getD, List.getElem?_eq_getElem hk] at e
    simp only [Option.getD_some] at e
    have h5 := List.all_eq_true.1 kana_each kanaT[(r - 65382).toNat] (List.getElem_mem hk)
    unfold kanaOk at h5
    simp only [Bool.and_eq_true, beq_iff_eq, decide_eq_true_eq] at h5
    rw [e]
    exact ⟨h5.1.1, by unfold I32; omega⟩
  · have e : widP r = r := by unfold widP; rw [if_neg h1, if_neg h2, if_neg h3, if_neg h4]
    rw [e]; exact ⟨e, hr⟩

set_option maxRecDepth 1000000 in
theorem dn_E9 : (dnF allP 233).getD (0, 0, 0) = (101, 769, 2) := by kernel_rfl
set_option maxRecDepth 1000000 in
theorem up_E9 : (upF allP (101, 769)).getD 0 = 233 := by kernel_rfl
set_option maxRecDepth 1000000 in
theorem up_E9' : (upF allP (101, 769)).isSome = true := by kernel_rfl
theorem low_A : lowP 65 spanT = 97 := by kernel_rfl
theorem wid_A : widP 65313 = 65 := by kernel_rfl

end Go.Proofs.Ytemdmalcoemhnab.Pr

namespace Go.Proofs.Ytemdmalcoemhnab.Pr
open Go.RowKit Go.Lib

def d1 (r : Int) : Int := ((dnF allP r).getD (0, 0, 0)).1
def d2 (r : Int) : Int := ((dnF allP r).getD (0, 0, 0)).2.1
def d3 (r : Int) : Int := ((dnF allP r).getD (0, 0, 0)).2.2
def u1 (a b : Int) : Int := (upF allP (a, b)).getD 0
def u2 (a b : Int) : Bool := (upF allP (a, b)).isSome
def exq (r : Int) : Bool := exF (dnF allP r) r
def s1 (r : Int) : Bool := decide (0 < (scF allP r).getD 0)

section
variable {w : World} {p d u s : Nat}
theorem down_g (h : PW w p d u s allP 395) {r : Int} (hr : I32 r) : Calls Try.prog 57 #[.pointer (some ⟨p, 0, none⟩), .int .i32 r] w fun e w' => e = .returned (.tuple #[.int .i32 (d1 r), .int .i32 (d2 r), .int .i64 (d3 r)]) ∧ Below w.heap.size w w' := down_any h hr rfl
theorem up_g (h : PW w p d u s allP 395) {a b : Int} (ha : I32 a) (hb : I32 b) : Calls Try.prog 54 #[.pointer (some ⟨p, 0, none⟩), .int .i32 a, .int .i32 b] w fun e w' => e = .returned (.tuple #[.int .i32 (u1 a b), .bool (u2 a b)]) ∧ w' = w := up_any h ha hb rfl rfl
theorem ex_g (h : PW w p d u s allP 395) {r : Int} (hr : I32 r) : Calls Try.prog 39 #[.pointer (some ⟨p, 0, none⟩), .int .i32 r] w fun e w' => e = .returned (.bool (exq r)) ∧ w' = w := ex_any h hr
end

theorem d_bd (r : Int) : I32 (d1 r) ∧ I32 (d2 r) ∧ 0 ≤ d3 r ∧ d3 r ≤ 2 := by
  unfold d1 d2 d3
  cases hd : dnF allP r with
  | none => exact ⟨⟨by decide, by decide⟩, ⟨by decide, by decide⟩, by decide, by decide⟩
  | some v =>
    obtain ⟨R, hR, _, rfl⟩ := dn_mem allP r v hd
    have hb := all_bd R hR
    refine ⟨hb.2.1, hb.2.2, ?_⟩
    show 0 ≤ (valP R).2.2 ∧ (valP R).2.2 ≤ 2
    unfold valP
    simp only
    split <;> decide
theorem u_bd (a b : Int) : I32 (u1 a b) := by
  unfold u1
  cases hu : upF allP (a, b) with
  | none => exact ⟨by decide, by decide⟩
  | some z =>
    obtain ⟨R, hR, _, _, rfl⟩ := up_mem allP _ z hu
    exact (all_bd R hR).1
theorem bk1 (r : Int) (h3 : d3 r = 2) (he : exq r = false) : u1 (d1 r) (d2 r) = r ∧ u2 (d1 r) (d2 r) = true := by
  unfold d3 at h3
  unfold d1 d2 u1 u2
  unfold exq exF at he
  rw [Bool.or_eq_false_iff] at he
  cases hd : dnF allP r with
  | none => rw [hd] at h3; simp at h3
  | some v =>
    obtain ⟨v1, v2, v3⟩ := v
    rw [hd] at h3
    simp only [Option.getD_some] at h3 ⊢
    subst h3
    rw [back1 r v1 v2 hd he.2]
    exact ⟨rfl, rfl⟩
theorem bk2 (a b : Int) (h : u2 a b = true) : d3 (u1 a b) = 2 ∧ d1 (u1 a b) = a ∧ d2 (u1 a b) = b ∧ exq (u1 a b) = false := by
  unfold u2 at h
  unfold d1 d2 d3 exq exF u1
  cases hu : upF allP (a, b) with
  | none => rw [hu] at h; cases h
  | some z =>
    have hb := back2 a b z hu
    simp only [Option.getD_some]
    rw [hb.1, hb.2]
    exact ⟨rfl, rfl, rfl, rfl⟩
end Go.Proofs.Ytemdmalcoemhnab.Pr

namespace Go.Proofs.Ytemdmalcoemhnab.Pr
open Go.RowKit Go.Great

/-- The place in the Go text that a function's first and second region name. -/
def posA (f : Func) : String :=
  match f.body with
  | some (.seq (.region _ ops _) _) => (ops[0]?.map (fun o => o.pos)).getD ""
  | _ => ""
def posB (f : Func) : String :=
  match f.body with
  | some (.seq _ (.seq (.region _ ops _) _)) => (ops[0]?.map (fun o => o.pos)).getD ""
  | _ => ""

/-- A row of the reference: three ints. -/
def rc3 (x : R3) : List Value := [.int .i64 x.1, .int .i64 x.2.1, .int .i64 x.2.2]

theorem rc3_len (l : List R3) : (l.flatMap rc3).length = l.length * 3 := by
  induction l with
  | nil => rfl
  | cons x l ih => simp only [List.flatMap_cons, List.length_append, ih, List.length_cons, rc3, List.length_nil]; omega
theorem rc3_one (l : List R3) : ∀ u ∈ l.flatMap rc3, u.oneCell' = true := by
  intro u hu
  obtain ⟨x, _, hx⟩ := List.mem_flatMap.1 hu
  simp [rc3] at hx
  rcases hx with rfl | rfl | rfl <;> rfl

theorem parts_all : singT ++ pairT0 ++ pairT1 ++ pairT2 ++ pairT3 ++ pairT4 ++ pairT5 ++ pairT6 = allP := by unfold allP pairT; simp only [List.append_assoc]

end Go.Proofs.Ytemdmalcoemhnab.Pr

namespace Go.Proofs.Ytemdmalcoemhnab.Pr
open Go.RowKit

/-- The reference's rows as they are read. -/
def RR3 (w : World) (g : Nat) (T : List R3) : Prop := g < w.heap.size ∧ ∀ k (h : k < T.length), w.cell? ⟨g, k * 3, none⟩ = some (.int .i64 T[k].1) ∧ w.cell? ⟨g, k * 3 + 1, none⟩ = some (.int .i64 T[k].2.1) ∧ w.cell? ⟨g, k * 3 + 2, none⟩ = some (.int .i64 T[k].2.2)
theorem rc3_at : ∀ (l : List R3) (j i : Nat) (h : j < l.length), i < 3 → (l.flatMap rc3)[j * 3 + i]? = (rc3 l[j])[i]?
  | [], _, _, h, _ => by simp at h
  | x :: l, 0, i, _, hi => by
    simp only [List.flatMap_cons, Nat.zero_mul, Nat.zero_add, List.getElem_cons_zero]
    rw [List.getElem?_append_left (by simp [rc3]; omega)]
  | x :: l, j + 1, i, h, hi => by
    have := rc3_at l j i (by simpa using h) hi
    rw [List.flatMap_cons, List.getElem?_append_right (by simp [rc3]; omega)]
    rw [show (j + 1) * 3 + i - (rc3 x).length = j * 3 + i by simp [rc3]; omega, this]
    rfl
theorem RR3.step {w w' : World} {g : Nat} {T : List R3} (h : RR3 w g T) (hb : Below w.heap.size w w') : RR3 w' g T :=
  ⟨Nat.lt_of_lt_of_le h.1 hb.size, fun k hk => ⟨(hb.cell (p := ⟨g, k * 3, none⟩) h.1).trans (h.2 k hk).1, (hb.cell (p := ⟨g, k * 3 + 1, none⟩) h.1).trans (h.2 k hk).2.1, (hb.cell (p := ⟨g, k * 3 + 2, none⟩) h.1).trans (h.2 k hk).2.2⟩⟩

/-- What the first row of a code point says. -/
def rdP (r : Int) : List R3 → Pt
  | [] => (0, 0, 0)
  | x :: l => if x.1 = r then valP x else rdP r l

/-- Excluded, as the reference tells it. -/
def rexq (T : List R3) (r : Int) : Bool := (rdP r T).2.2 == 1 || exB r

/-- Is it the second of a row that isn't excluded? -/
def rsB (A : List R3) (r : Int) : List R3 → Bool
  | [] => false
  | x :: l => if x.2.2 = r ∧ r ≠ 0 ∧ rexq A x.1 = false then true else rsB A r l
/-- What two make. -/
def rupP (A : List R3) (a b : Int) : List R3 → Int
  | [] => -1
  | x :: l => if x.2.1 = a ∧ x.2.2 = b ∧ b ≠ 0 ∧ rexq A x.1 = false then x.1 else rupP A a b l


end Go.Proofs.Ytemdmalcoemhnab.Pr

namespace Go.Proofs.Ytemdmalcoemhnab.Pr
open Go.RowKit

theorem rd_of_mem : ∀ (L : List R3), distB L = true → ∀ x ∈ L, rdP x.1 L = valP x
  | [], _, x, hx => by simp at hx
  | y :: L, hd, x, hx => by
    simp only [distB, Bool.and_eq_true] at hd
    unfold rdP
    rcases List.mem_cons.1 hx with rfl | hx
    · rw [if_pos rfl]
    · have := List.all_eq_true.1 hd.1 x hx
      rw [if_neg (fun e => by simp [e] at this)]
      exact rd_of_mem L hd.2 x hx
theorem rd_none (r : Int) : ∀ (L : List R3), (∀ x ∈ L, x.1 ≠ r) → rdP r L = (0, 0, 0)
  | [], _ => rfl
  | y :: L, h => by
    unfold rdP
    rw [if_neg (h y (by simp))]
    exact rd_none r L (fun x hx => h x (by simp [hx]))
theorem rd_dn (r : Int) : rdP r allP = (dnF allP r).getD (0, 0, 0) := by
  cases hd : dnF allP r with
  | some v =>
    obtain ⟨R, hR, rfl, rfl⟩ := dn_mem allP r v hd
    exact rd_of_mem allP all_dist R hR
  | none =>
    refine rd_none r allP (fun x hx e => ?_)
    have := dn_of_mem allP all_dist x hx
    rw [e, hd] at this; cases this
theorem rex_eq (r : Int) : rexq allP r = exq r := by unfold rexq exq exF; rw [rd_dn]
theorem rex_skip (x : R3) (hx : x ∈ allP) : rexq allP x.1 = skipB x := by
  unfold rexq skipB
  rw [rd_of_mem allP all_dist x hx]
  unfold valP
  simp only
  by_cases h : x.2.2 = 0
  · rw [if_pos h, h]; rfl
  · rw [if_neg h]
    have : (x.2.2 == 0) = false := by simpa using h
    rw [this]; rfl
theorem rs_any (r : Int) : ∀ (L : List R3), (∀ x ∈ L, x ∈ allP) → (rsB allP r L = true ↔ ∃ x ∈ L, skipB x = false ∧ x.2.2 = r)
  | [], _ => by simp [rsB]
  | y :: L, h => by
    have ih := rs_any r L (fun x hx => h x (by simp [hx]))
    unfold rsB
    rw [rex_skip y (h y (by simp))]
    split
    · rename_i hh
      constructor
      · intro _; exact ⟨y, by simp, hh.2.2, hh.1⟩
      · intro _; rfl
    · rename_i hh
      rw [ih]
      constructor
      · rintro ⟨x, hx, h1⟩; exact ⟨x, by simp [hx], h1⟩
      · rintro ⟨x, hx, h1, h2⟩
        rcases List.mem_cons.1 hx with rfl | hx
        · exfalso
          have h3 : x.2.2 ≠ 0 := by
            unfold skipB at h1
            rw [Bool.or_eq_false_iff] at h1
            simpa using h1.1
          exact hh ⟨h2, by rw [← h2]; exact h3, h1⟩
        · exact ⟨x, hx, h1, h2⟩
theorem rs_eq (r : Int) : rsB allP r allP = s1 r := by
  rw [Bool.eq_iff_iff, rs_any r allP (fun _ h => h)]
  unfold s1
  rw [decide_eq_true_eq, sc_pos]

theorem rup_mem (a b : Int) : ∀ (L : List R3), (∀ x ∈ L, x ∈ allP) → (∃ x ∈ L, skipB x = false ∧ x.2.1 = a ∧ x.2.2 = b ∧ rupP allP a b L = x.1) ∨ ((∀ x ∈ L, ¬ (skipB x = false ∧ x.2.1 = a ∧ x.2.2 = b)) ∧ rupP allP a b L = -1)
  | [], _ => .inr ⟨fun x hx => by simp at hx, rfl⟩
  | y :: L, h => by
    unfold rupP
    rw [rex_skip y (h y (by simp))]
    split
    · rename_i hh
      exact .inl ⟨y, by simp, hh.2.2.2, hh.1, hh.2.1, rfl⟩
    · rename_i hh
      rcases rup_mem a b L (fun x hx => h x (by simp [hx])) with ⟨x, hx, h1⟩ | ⟨h1, h2⟩
      · exact .inl ⟨x, by simp [hx], h1⟩
      · refine .inr ⟨fun x hx hc => ?_, h2⟩
        rcases List.mem_cons.1 hx with rfl | hx
        · have h3 : x.2.2 ≠ 0 := by
            have h4 := hc.1
            unfold skipB at h4
            rw [Bool.or_eq_false_iff] at h4
            simpa using h4.1
          exact hh ⟨hc.2.1, hc.2.2, by rw [← hc.2.2]; exact h3, hc.1⟩
        · exact h1 x hx hc
theorem rup_eq (a b : Int) : (u2 a b = true ∧ rupP allP a b allP = u1 a b ∧ 0 ≤ u1 a b) ∨ (u2 a b = false ∧ u1 a b = 0 ∧ rupP allP a b allP = -1) := by
  rcases rup_mem a b allP (fun _ h => h) with ⟨x, hx, h1, h2, h3, h4⟩ | ⟨h1, h2⟩
  · have := up_of_mem allP all_udist x hx h1
    rw [h2, h3] at this
    left
    unfold u1 u2
    rw [this]
    refine ⟨rfl, h4, ?_⟩
    have := List.all_eq_true.1 all_okR x hx
    simp only [okR, Bool.and_eq_true, decide_eq_true_eq] at this
    show 0 ≤ x.1
    omega
  · right
    have hn : upF allP (a, b) = none := by
      cases hu : upF allP (a, b) with
      | none => rfl
      | some z =>
        obtain ⟨R, hR, hs, e, _⟩ := up_mem allP _ z hu
        simp only [Prod.mk.injEq] at e
        exact absurd ⟨hs, e.1.symm, e.2.symm⟩ (h1 R hR)
    unfold u1 u2
    rw [hn]
    exact ⟨rfl, rfl, h2⟩
end Go.Proofs.Ytemdmalcoemhnab.Pr
