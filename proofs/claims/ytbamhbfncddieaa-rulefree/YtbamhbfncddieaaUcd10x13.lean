import Derived.Test.YtbamhbfncddieaaUcd9
import Derived.Lib.AppendZeros
namespace Go.Proofs.Ytbamhbfncddieaa.Uc
open Go.RowKit

theorem Try.info_line : (Try.prog.info? 96).map (fun i => (i.zero, i.size, i.bytes)) = some (some (.agg #[.int .i32 0, .int .i32 0, .int .i64 0, .int .i64 0, .int .i64 0, .int .i64 0, .int .i64 0]), 7, 48) := by kernel_rfl

/-- slices.Grow of nil by n. -/
theorem grow_any (n : Nat) (w : World) (h0 : 0 < n) (h1 : n ≤ 5000) :
    Calls Try.prog 75 #[.slice none 0 0, .int .i64 n] w fun e w' => ∃ g cap, e = .returned (.slice (some ⟨g, 0, none⟩) 0 cap) ∧ w'.ownsRow w.heap.size 96 7 (.slice (some ⟨g, 0, none⟩) 0 cap) 0 [] ∧ Below w.heap.size w w' := by
  obtain ⟨i0, hi, hz0, hz1, hz2⟩ := info_parts Try.info_line
  have hb : n * i0.bytes ≤ 281474976710656 := by rw [hz2]; omega
  have hr := fun ty => Lib.run_append_nil_zeros (P := Try.prog) w 53 3 ty 96 i0 _ .i64 .i64 Try.underlying53 Try.underlying3 hi hz0 n h0 (by rw [hz1]; decide) (by omega) hb
  have HR := hid hr
  have hge := grownCap_ge w n 0 96
  have hle := grownCap_le_maxLen w n 0 96 (by unfold maxLen; omega)
  clear hr hb
  generalize grownCap w n 0 96 = c at *
  have HOwn : Hid (∀ cur : Array Value, cur.size = c * 7 → (w.drew.alloc (.cells cur 96)).ownsRow w.heap.size 96 7 (.slice (some ⟨w.heap.size, 0, none⟩) 0 c) 0 []) := fun cur hcur =>
    ⟨rfl, .inr ⟨w.heap.size, c, cur, rfl, Nat.le_refl _, heap_alloc_new w.drew _, Nat.zero_le _, hle, hcur, by simp⟩⟩
  have HBel := hid (fun o => ((Below.refl w.heap.size w).drew).alloc (Nat.le_refl _) o)
  have n0 : (0 : Int) < (n : Int) := by omega
  have n1 : ¬ ((n : Int) < 0) := by omega
  go_enter Try.func75, Try.ntmps75
  go_wp2_with (at_builtin; refine Lib.wpList_append_run _ rfl (.tmp 20) (.tmp 21) 53 3 rfl (.slice none 0 0) (.int .i64 n) rfl rfl _ _ (HR.out _) ?_)
  go_ret
  exact ⟨_, _, rfl, HOwn.out _ (by simp only [Array.size_append, size_zeroCells, List.size_toArray, List.length_cons, List.length_nil]; omega), HBel.out _⟩

/-- A list of parts, each in a block of its own. -/
def Parts (W : World) (b : Nat) (ps : List (Nat × List Ln)) : Prop :=
  b < W.heap.size ∧ ∀ k (h : k < ps.length), W.cell? ⟨b, k, none⟩ = some (.slice (some ⟨ps[k].1, 0, none⟩) ps[k].2.length ps[k].2.length) ∧ W.heap[ps[k].1]? = some (.cells (ps[k].2.flatMap cells7).toArray 96)

def joinL (ps : List (Nat × List Ln)) : List Ln := ps.flatMap (·.2)
theorem joinL_snoc (ps : List (Nat × List Ln)) (k : Nat) (h : k < ps.length) : joinL (ps.take (k + 1)) = joinL (ps.take k) ++ ps[k].2 := by
  unfold joinL
  rw [List.take_succ_eq_append_getElem h, List.flatMap_append]; simp
theorem joinL_le (ps : List (Nat × List Ln)) (k : Nat) : (joinL (ps.take k)).length ≤ (joinL ps).length := by
  have : joinL ps = joinL (ps.take k) ++ joinL (ps.drop k) := by unfold joinL; rw [← List.flatMap_append, List.take_append_drop]
  rw [this, List.length_append]; omega
theorem cells7_len (l : List Ln) : (l.flatMap cells7).length = l.length * 7 := by
  induction l with
  | nil => rfl
  | cons x l ih => simp only [List.flatMap_cons, List.length_append, ih, List.length_cons, cells7, List.length_nil]; omega
theorem cells7_one (l : List Ln) : ∀ u ∈ l.flatMap cells7, u.oneCell' = true := by
  intro u hu
  obtain ⟨x, _, hx⟩ := List.mem_flatMap.1 hu
  simp [cells7] at hx
  rcases hx with rfl | rfl | rfl | rfl | rfl | rfl | rfl <;> rfl

structure CatW (w : World) (ps : List (Nat × List Ln)) (k : Nat) (ov : Value) (wr : World) : Prop where
  own : wr.ownsRow w.heap.size 96 7 ov (joinL (ps.take k)).length ((joinL (ps.take k)).flatMap cells7)
  bel : Below w.heap.size w wr

set_option maxHeartbeats 2000000 in
set_option maxRecDepth 100000 in
theorem concat_any {w : World} {b : Nat} {ps : List (Nat × List Ln)} (h : Parts w b ps) (h0 : 0 < (joinL ps).length) (h1 : (joinL ps).length ≤ 5000) (hp : ps.length ≤ 100) :
    Calls Try.prog 52 #[.slice (some ⟨b, 0, none⟩) ps.length ps.length] w fun e w' => ∃ v, e = .returned v ∧ w'.ownsRow w.heap.size 96 7 v (joinL ps).length ((joinL ps).flatMap cells7) ∧ Below w.heap.size w w' := by
  have HP := hid h
  clear h
  have HG := hid (fun w => grow_any (joinL ps).length w h0 h1)
  go_enter Try.func52, Try.ntmps52
  go_wp2_with fail
  go_loop [11, 3] (fun i n => ∃ k : Nat, k ≤ ps.length ∧ i = .int .i64 k ∧ n = .int .i64 (joinL (ps.take k)).length) (fun i _ => ps.length - (intOf i).toNat)
  case atStart => exact ⟨0, Nat.zero_le _, rfl, rfl⟩
  case round =>
    obtain ⟨k, hk, rfl, rfl⟩ := hrel
    have hle := joinL_le ps k
    by_cases hlt : k < ps.length
    · have hle2 := joinL_le ps (k + 1)
      obtain ⟨hc, _⟩ := HP.out.2 k hlt
      have hs : Hid (((joinL (ps.take (k + 1))).length : Int) = (joinL (ps.take k)).length + (ps[k].2.length : Int)) := by
        show _ = _
        rw [joinL_snoc ps k hlt, List.length_append]; omega
      have hb2 : ((joinL (ps.take k)).length : Int) + (ps[k].2.length : Int) ≤ 5000 := by have := hs.out; omega
      have b1 : (0 : Int) ≤ k ∧ (k : Int) < (ps.length : Int) := by omega
      clear HP HG
      generalize ps[k] = x at *
      generalize (joinL (ps.take k)).length = m at *
      generalize x.2.length = m2 at *
      go_wp2_with fail
      go_round
      case rel => exact ⟨k + 1, by omega, by go_num, by rw [hs.out]⟩
      case measure => simp [intOf]; omega
    · have e : k = ps.length := by omega
      subst e
      have e1 : Hid ((joinL (ps.take ps.length)).length = (joinL ps).length) := by show _ = _; rw [List.take_length]
      rw [e1.out] at hle ⊢
      clear e1
      go_wp2_with (go_at_call 75; refine (HG.out _).mono ?_; rintro e w1 ⟨g1, cap1, rfl, ho1, hb1⟩; have HO1 := hid ho1; have HB1 := hid hb1; clear ho1 hb1)
      go_loopg [27, 6] ps.length (fun g i ov wr => ∃ k : Nat, k ≤ ps.length ∧ g = ps.length - k ∧ i = .int .i64 k ∧ Hid (CatW w ps k ov wr))
      case atStart => exact ⟨0, Nat.zero_le _, by omega, rfl, ⟨HO1.out, HB1.out⟩⟩
      case round =>
        clear HO1 HB1 HG
        obtain ⟨k, hk2, hg, rfl, H⟩ := hrel
        have HGG := hid hg
        clear hg
        obtain ⟨ao2, cap2, rfl⟩ := own_slice H.out.own
        by_cases hlt2 : k < ps.length
        · have hle2 := joinL_le ps (k + 1)
          have b1 : (0 : Int) ≤ k ∧ (k : Int) < (ps.length : Int) := by omega
          obtain ⟨hbl, hpp⟩ := HP.out
          obtain ⟨hc, hx⟩ := hpp k hlt2
          have hb := H.out.bel
          have hc' := (hb.cell (p := ⟨b, k, none⟩) hbl).trans hc
          have hx' := hid ((hb.block ps[k].1 (Array.getElem?_eq_some_iff.1 hx).1).trans hx)
          have HS := hid (joinL_snoc ps k hlt2)
          have HL : Hid ((joinL (ps.take k)).length + ps[k].2.length ≤ 5000) := by
            show _ ≤ _
            rw [joinL_snoc ps k hlt2, List.length_append] at hle2; omega
          have HO := hid H.out.own
          have HB := hid hb
          clear hpp hc hx hb H hle2 hbl
          generalize ps[k] = x at *
          obtain ⟨xb, xl⟩ := x
          simp only at hc' hx' HS HL
          obtain ⟨i0, hi, hz0, hz1, hz2⟩ := info_parts Try.info_line
          have HI := hid (And.intro hi (And.intro hz0 (And.intro hz1 hz2)))
          clear hi hz0 hz1 hz2
          generalize joinL (ps.take k) = m at *
          go_wp2_with (at_builtin; refine wpList_append_own_at _ rfl (.tmp 31) (.tmp 32) 53 rfl w.heap.size 96 i0 (.agg #[.int .i32 0, .int .i32 0, .int .i64 0, .int .i64 0, .int .i64 0, .int .i64 0, .int .i64 0]) 7 48 Try.underlying53 HI.out.1 HI.out.2.1 HI.out.2.2.1 HI.out.2.2.2 rfl (by decide) (.slice ao2 m.length cap2) m.length (m.flatMap cells7) rfl HO.out ⟨xb, 0, none⟩ xl.length xl.length (xl.flatMap cells7) rfl (cells7_len xl) (World.news_of_block hx'.out) (cells7_one xl) (by have := HL.out; unfold maxLen; omega) (by have := HL.out; omega) (HB.out.size) ?_; intro v' w' h1 h2 _ _; have HO2 := hid h1; have HB2 := hid (HB.out.trans (below_of_grown h2 _ HB.out.size (fun k e => (HO.out.lt k e).1))); clear h1 h2)
          go_roundg (ps.length - (k + 1))
          case measure => rw [HGG.out]; omega
          case rel =>
            refine ⟨k + 1, by omega, rfl, by go_num, ⟨?_, HB2.out⟩⟩
            rw [HS.out, List.length_append, List.flatMap_append]
            exact HO2.out
        · have e : k = ps.length := by omega
          subst e
          have HO : Hid (wr.ownsRow w.heap.size 96 7 (.slice ao2 (joinL ps).length cap2) (joinL ps).length ((joinL ps).flatMap cells7)) := by
            have := H.out.own
            rw [List.take_length] at this; exact this
          have HB := hid H.out.bel
          rw [List.take_length]
          clear H
          go_wp2_with fail
          go_ret
          exact ⟨_, rfl, HO.out, HB.out⟩
end Go.Proofs.Ytbamhbfncddieaa.Uc

namespace Go.Proofs.Ytbamhbfncddieaa.Uc
open Go.RowKit

/-- The five parts, in blocks one behind the other. -/
def fiveP (n : Nat) : List (Nat × List Ln) := [(n, latinT), (n + 1, marksT), (n + 2, arabicT), (n + 3, devT), (n + 4, lastT)]
theorem five_join (n : Nat) : joinL (fiveP n) = allT := by
  unfold joinL fiveP allT
  simp [List.flatMap_cons, List.append_assoc]

theorem alloc_at (w : World) (o : Obj) (i : Nat) : (w.alloc o).heap[i]? = if i = w.heap.size then some o else w.heap[i]? := by
  by_cases h : i = w.heap.size
  · rw [if_pos h, h]; exact heap_alloc_new w o
  · rw [if_neg h]
    by_cases h2 : i < w.heap.size
    · exact Below.heap_alloc _ _ _ h2
    · rw [Array.getElem?_eq_none (by simp; omega), Array.getElem?_eq_none (by omega)]

theorem cell_new (w : World) (cs : Array Value) (t : TypeId) (b j : Nat) (hb : b = w.heap.size) : (w.alloc (.cells cs t)).cell? ⟨b, j, none⟩ = cs[j]? := by
  have h := heap_alloc_new w (.cells cs t)
  subst hb
  unfold World.cell?
  rw [h]; rfl

theorem own_base {w : World} {B B' n size : Nat} {e : TypeId} {v : Value} {xs : List Value} (h : w.ownsRow B e size v n xs) (hB : B' ≤ B) : w.ownsRow B' e size v n xs :=
  ⟨h.1, h.2.imp id fun ⟨g, cap, cur, h1, h2, h3⟩ => ⟨g, cap, cur, h1, Nat.le_trans hB h2, h3⟩⟩

theorem five_parts {w W : World} {A1 A2 A3 A4 A5 : Array Value} {l1 l2 l3 l4 l5 : List Ln} (h1 : A1 = (l1.flatMap cells7).toArray) (h2 : A2 = (l2.flatMap cells7).toArray) (h3 : A3 = (l3.flatMap cells7).toArray) (h4 : A4 = (l4.flatMap cells7).toArray) (h5 : A5 = (l5.flatMap cells7).toArray)
    (hW : W = (((((w.alloc (.cells A1 96)).alloc (.cells A2 96)).alloc (.cells A3 96)).alloc (.cells A4 96)).alloc (.cells A5 96)).alloc (.cells #[.slice (some ⟨w.heap.size, 0, none⟩) l1.length l1.length, .slice (some ⟨w.heap.size + 1, 0, none⟩) l2.length l2.length, .slice (some ⟨w.heap.size + 2, 0, none⟩) l3.length l3.length, .slice (some ⟨w.heap.size + 3, 0, none⟩) l4.length l4.length, .slice (some ⟨w.heap.size + 4, 0, none⟩) l5.length l5.length] 53)) :
    Parts W (w.heap.size + 5) [(w.heap.size, l1), (w.heap.size + 1, l2), (w.heap.size + 2, l3), (w.heap.size + 3, l4), (w.heap.size + 4, l5)] := by
  subst h1 h2 h3 h4 h5 hW
  refine ⟨by simp, fun k hk => ?_⟩
  match k, hk with
  | 0, _ => exact ⟨(cell_new _ _ _ _ _ (by simp only [World.size_alloc])).trans rfl, by simp only [alloc_at, World.size_alloc, List.getElem_cons_zero]; repeat (first | rw [if_pos trivial] | rw [if_pos (by omega)] | rw [if_neg (by omega)])⟩
  | 1, _ => exact ⟨(cell_new _ _ _ _ _ (by simp only [World.size_alloc])).trans rfl, by simp only [alloc_at, World.size_alloc, List.getElem_cons_succ, List.getElem_cons_zero]; repeat (first | rw [if_pos trivial] | rw [if_pos (by omega)] | rw [if_neg (by omega)])⟩
  | 2, _ => exact ⟨(cell_new _ _ _ _ _ (by simp only [World.size_alloc])).trans rfl, by simp only [alloc_at, World.size_alloc, List.getElem_cons_succ, List.getElem_cons_zero]; repeat (first | rw [if_pos trivial] | rw [if_pos (by omega)] | rw [if_neg (by omega)])⟩
  | 3, _ => exact ⟨(cell_new _ _ _ _ _ (by simp only [World.size_alloc])).trans rfl, by simp only [alloc_at, World.size_alloc, List.getElem_cons_succ, List.getElem_cons_zero]; repeat (first | rw [if_pos trivial] | rw [if_pos (by omega)] | rw [if_neg (by omega)])⟩
  | 4, _ => exact ⟨(cell_new _ _ _ _ _ (by simp only [World.size_alloc])).trans rfl, by simp only [alloc_at, World.size_alloc, List.getElem_cons_succ, List.getElem_cons_zero]; repeat (first | rw [if_pos trivial] | rw [if_pos (by omega)] | rw [if_neg (by omega)])⟩
  | k + 5, h => simp at h; omega

set_option maxRecDepth 100000 in
theorem all_len : 0 < allT.length ∧ allT.length ≤ 200 := by decide +kernel

set_option maxHeartbeats 1000000 in
theorem lines_any (w : World) : Calls Try.prog 30 #[] w fun e w' => ∃ v, e = .returned v ∧ w'.ownsRow w.heap.size 96 7 v allT.length (allT.flatMap cells7) ∧ Below w.heap.size w w' := by
  have H1 := hid (fun w => latin_any w)
  have H2 := hid (fun w => marks_any w)
  have H3 := hid (fun w => arabic_any w)
  have H4 := hid (fun w => dev_any w)
  have H5 := hid (fun w => last_any w)
  obtain ⟨A1, e1⟩ : ∃ A, A = (latinT.flatMap cells7).toArray := ⟨_, rfl⟩
  obtain ⟨A2, e2⟩ : ∃ A, A = (marksT.flatMap cells7).toArray := ⟨_, rfl⟩
  obtain ⟨A3, e3⟩ : ∃ A, A = (arabicT.flatMap cells7).toArray := ⟨_, rfl⟩
  obtain ⟨A4, e4⟩ : ∃ A, A = (devT.flatMap cells7).toArray := ⟨_, rfl⟩
  obtain ⟨A5, e5⟩ : ∃ A, A = (lastT.flatMap cells7).toArray := ⟨_, rfl⟩
  rw [← e1] at H1
  rw [← e2] at H2
  rw [← e3] at H3
  rw [← e4] at H4
  rw [← e5] at H5
  have HC : Hid (∀ W, _ → Calls Try.prog 52 #[.slice (some ⟨w.heap.size + 5, 0, none⟩) 5 5] W _) := fun W hW => concat_any (ps := fiveP w.heap.size) (five_parts (W := W) e1 e2 e3 e4 e5 hW) (by rw [five_join]; exact all_len.1) (by rw [five_join]; have := all_len.2; omega) (by unfold fiveP; exact (by decide : (5 : Nat) ≤ 100))
  rw [five_join] at HC
  clear e1 e2 e3 e4 e5
  generalize latinT.length = n1 at *
  generalize marksT.length = n2 at *
  generalize arabicT.length = n3 at *
  generalize devT.length = n4 at *
  generalize lastT.length = n5 at *
  go_enter Try.func30, Try.ntmps30
  go_wp2_with (first | (go_at_call 53; refine (H1.out _).mono ?_; rintro e w1 ⟨rfl, rfl⟩) | (go_at_call 54; refine (H2.out _).mono ?_; rintro e w1 ⟨rfl, rfl⟩) | (go_at_call 55; refine (H3.out _).mono ?_; rintro e w1 ⟨rfl, rfl⟩) | (go_at_call 56; refine (H4.out _).mono ?_; rintro e w1 ⟨rfl, rfl⟩) | (go_at_call 57; refine (H5.out _).mono ?_; rintro e w1 ⟨rfl, rfl⟩) | (go_at_call 52; refine (HC.out _ rfl).mono ?_; rintro e w1 ⟨v, rfl, ho, hb⟩; have HO := hid ho; have HB := hid hb; clear ho hb))
  go_ret
  have hb0 : Below w.heap.size w ((((((w.alloc (.cells A1 96)).alloc (.cells A2 96)).alloc (.cells A3 96)).alloc (.cells A4 96)).alloc (.cells A5 96)).alloc (.cells #[.slice (some ⟨w.heap.size, 0, none⟩) n1 n1, .slice (some ⟨w.heap.size + 1, 0, none⟩) n2 n2, .slice (some ⟨w.heap.size + 2, 0, none⟩) n3 n3, .slice (some ⟨w.heap.size + 3, 0, none⟩) n4 n4, .slice (some ⟨w.heap.size + 4, 0, none⟩) n5 n5] 53)) :=
    (((((((Below.refl _ _).alloc (by simp) _).alloc (by simp) _).alloc (by simp; omega) _).alloc (by simp; omega) _).alloc (by simp; omega) _).alloc (by simp; omega) _)
  exact ⟨_, rfl, own_base HO.out hb0.size, hb0.trans (HB.out.mono hb0.size)⟩
end Go.Proofs.Ytbamhbfncddieaa.Uc

namespace Go.Proofs.Ytbamhbfncddieaa.Uc
open Go.RowKit

/-- The lines as they are read. -/
def LIn (w : World) (g : Nat) (T : List Ln) : Prop := g < w.heap.size ∧ ∀ k (h : k < T.length) i, i < 7 → w.cell? ⟨g, k * 7 + i, none⟩ = (cells7 T[k])[i]?

theorem cells7_at : ∀ (l : List Ln) (j i : Nat) (h : j < l.length), i < 7 → (l.flatMap cells7)[j * 7 + i]? = (cells7 l[j])[i]?
  | [], _, _, h, _ => by simp at h
  | x :: l, 0, i, _, hi => by
    simp only [List.flatMap_cons, Nat.zero_mul, Nat.zero_add, List.getElem_cons_zero]
    rw [List.getElem?_append_left (by simp [cells7]; omega)]
  | x :: l, j + 1, i, h, hi => by
    have := cells7_at l j i (by simpa using h) hi
    rw [List.flatMap_cons, List.getElem?_append_right (by simp [cells7]; omega)]
    rw [show (j + 1) * 7 + i - (cells7 x).length = j * 7 + i by simp [cells7]; omega, this]
    rfl

theorem lin_of_own {w : World} {B : Nat} {v : Value} {T : List Ln} (h : w.ownsRow B 96 7 v T.length (T.flatMap cells7)) (h0 : 0 < T.length) : ∃ g cap, v = .slice (some ⟨g, 0, none⟩) T.length cap ∧ LIn w g T := by
  rcases h.2 with ⟨_, h2⟩ | ⟨g, cap, cur, rfl, h2, h3, h4, h5, h6, h7⟩
  · omega
  · exact ⟨g, cap, rfl, (Array.getElem?_eq_some_iff.1 h3).1, fun k hk i hi => (h.cellAt (k * 7 + i) (by omega)).trans (cells7_at T k i hk hi)⟩

/-- A line's local copy. -/
def LocL (lb : Nat) (x : Ln) (w : World) : Prop := w.cell? ⟨lb, 0, none⟩ = some (.int .i32 x.1) ∧ w.cell? ⟨lb, 1, none⟩ = some (.int .i32 x.2.1) ∧ w.cell? ⟨lb, 2, none⟩ = some (.int .i64 x.2.2.1) ∧ w.cell? ⟨lb, 3, none⟩ = some (.int .i64 x.2.2.2.1) ∧ w.cell? ⟨lb, 4, none⟩ = some (.int .i64 x.2.2.2.2.1) ∧ w.cell? ⟨lb, 5, none⟩ = some (.int .i64 x.2.2.2.2.2.1) ∧ w.cell? ⟨lb, 6, none⟩ = some (.int .i64 x.2.2.2.2.2.2)
theorem LocL.of_block {lb : Nat} {x : Ln} {w w' : World} (h : LocL lb x w) (e : w'.heap[lb]? = w.heap[lb]?) : LocL lb x w' := by
  unfold LocL
  rw [World.cell?_of_block (a := ⟨lb, 0, none⟩) e, World.cell?_of_block (a := ⟨lb, 1, none⟩) e, World.cell?_of_block (a := ⟨lb, 2, none⟩) e, World.cell?_of_block (a := ⟨lb, 3, none⟩) e, World.cell?_of_block (a := ⟨lb, 4, none⟩) e, World.cell?_of_block (a := ⟨lb, 5, none⟩) e, World.cell?_of_block (a := ⟨lb, 6, none⟩) e]; exact h
theorem LocL.lt {lb : Nat} {x : Ln} {w : World} (h : LocL lb x w) : lb < w.heap.size := World.block_lt_of_cell? w _ h.1
theorem LocL.step {lb : Nat} {x : Ln} {w w' : World} (h : LocL lb x w) (hb : Below w.heap.size w w') : LocL lb x w' := h.of_block (hb.block lb h.lt)
theorem LocL.alloc {lb : Nat} {x : Ln} {w : World} (h : LocL lb x w) (o : Obj) : LocL lb x (w.alloc o) := h.of_block (Below.heap_alloc _ _ _ h.lt)
theorem LocL.new (w : World) (x : Ln) (t : TypeId) : LocL w.heap.size x (w.alloc (.cells #[.int .i32 x.1, .int .i32 x.2.1, .int .i64 x.2.2.1, .int .i64 x.2.2.2.1, .int .i64 x.2.2.2.2.1, .int .i64 x.2.2.2.2.2.1, .int .i64 x.2.2.2.2.2.2] t)) := by
  unfold LocL
  rw [cell_new _ _ _ _ _ rfl, cell_new _ _ _ _ _ rfl, cell_new _ _ _ _ _ rfl, cell_new _ _ _ _ _ rfl, cell_new _ _ _ _ _ rfl, cell_new _ _ _ _ _ rfl, cell_new _ _ _ _ _ rfl]
  exact ⟨rfl, rfl, rfl, rfl, rfl, rfl, rfl⟩

theorem case_snoc (x : Ln) : ∀ (n : Nat) (r : Int), caseRows x r (n + 1) = caseRows x r n ++ [⟨r + n, r + n, hasP x (caseP x (r + n))⟩]
  | 0, r => by simp [caseRows]
  | n + 1, r => by
    rw [caseRows, case_snoc x n (r + 1), caseRows]
    have e : r + 1 + (n : Int) = r + ((n + 1 : Nat) : Int) := by omega
    rw [e]; rfl
theorem case_len (x : Ln) : ∀ (n : Nat) (r : Int), (caseRows x r n).length = n
  | 0, _ => rfl
  | n + 1, r => by rw [caseRows, List.length_cons, case_len x n]

theorem own_below {w w' : World} {B n size : Nat} {e : TypeId} {v : Value} {xs : List Value} (h : w.ownsRow B e size v n xs) (hb : Below w.heap.size w w') : w'.ownsRow B e size v n xs :=
  ⟨h.1, h.2.imp id fun ⟨g, cap, cur, h1, h2, h3, h4⟩ => ⟨g, cap, cur, h1, h2, (hb.block g (Array.getElem?_eq_some_iff.1 h3).1).trans h3, h4⟩⟩

/-- What assigned has put. -/
structure AsgW (w : World) (T : List Ln) (out : List (SRow Tr)) (ov : Value) (wr : World) : Prop where
  own : wr.ownsRow w.heap.size 94 7 ov out.length (out.flatMap tr7)
  bel : Below w.heap.size w wr
  most : out.length ≤ 4000

theorem asg_snoc (T : List Ln) (k : Nat) (h : k < T.length) : asgP (T.take (k + 1)) = asgP (T.take k) ++ lineRows T[k] := by
  unfold asgP
  rw [List.take_succ_eq_append_getElem h, List.flatMap_append]; simp
theorem asg_le (T : List Ln) (k : Nat) : (asgP (T.take k)).length ≤ (asgP T).length := by
  have : asgP T = asgP (T.take k) ++ asgP (T.drop k) := by unfold asgP; rw [← List.flatMap_append, List.take_append_drop]
  rw [this, List.length_append]; omega
end Go.Proofs.Ytbamhbfncddieaa.Uc

namespace Go.Proofs.Ytbamhbfncddieaa.Uc
open Go.RowKit

set_option maxHeartbeats 4000000 in
set_option maxRecDepth 100000 in
theorem asg_any {w : World} {g cap : Nat} {T : List Ln} (h : LIn w g T) (hm : (asgP T).length ≤ 4000) (hl : T.length ≤ 4000) (hs : ∀ x ∈ T, 0 ≤ x.1 ∧ x.1 ≤ 1114111 ∧ 0 ≤ x.2.1 ∧ x.2.1 ≤ 1114111) :
    Calls Try.prog 29 #[.slice (some ⟨g, 0, none⟩) T.length cap] w fun e w' => ∃ ov, e = .returned ov ∧ AsgW w T (asgP T) ov w' := by
  have HC := hid h
  have HS := hid hs
  clear h hs
  go_enter Try.func29, Try.ntmps29
  go_wp2_with fail
  go_loopg [9, 3] T.length (fun gg i ov wr => ∃ (k : Nat), k ≤ T.length ∧ gg = T.length - k ∧ i = .int .i64 k ∧ Hid (AsgW w T (asgP (T.take k)) ov wr))
  case atStart => exact ⟨0, Nat.zero_le _, by omega, rfl, ⟨World.ownsRow_nil _ _ _ _, Below.refl _ _, by simp [asgP]⟩⟩
  case round =>
    obtain ⟨k, hk, hg, rfl, H⟩ := hrel
    have HG := hid hg
    clear hg
    obtain ⟨ao2, cap2, rfl⟩ := own_slice H.out.own
    by_cases hlt : k < T.length
    · obtain ⟨hgl, hcc⟩ := HC.out
      have hb := H.out.bel
      have c := fun i hi => (hb.cell (p := ⟨g, k * 7 + i, none⟩) hgl).trans (hcc k hlt i hi)
      have d0 := c 0 (by omega)
      have d1 := c 1 (by omega)
      have d2 := c 2 (by omega)
      have d3 := c 3 (by omega)
      have d4 := c 4 (by omega)
      have d5 := c 5 (by omega)
      have d6 := c 6 (by omega)
      have ⟨hf0, hf1, ht0, ht1⟩ := HS.out T[k] (List.getElem_mem hlt)
      have HSn := hid (asg_snoc T k hlt)
      have HLe := hid (Nat.le_trans (asg_le T (k + 1)) hm)
      clear c hcc
      generalize T[k] = x at *
      obtain ⟨x1, x2, x3, x4, x5, x6, x7⟩ := x
      simp only [cells7, List.getElem?_cons_zero, List.getElem?_cons_succ, Nat.add_zero] at d0 d1 d2 d3 d4 d5 d6 hf0 hf1 ht0 ht1
      have HOA := hid (fun o => H.out.own.alloc o)
      have HOL : Hid (∀ g, (Value.slice ao2 (asgP (T.take k)).length cap2).ownBlock = some g → g < wr.heap.size) := fun g hg => (H.out.own.lt g hg).2
      have HB := hid (fun o => hb.alloc (by have := hb.size; omega) o)
      have hmo : (asgP (T.take k)).length ≤ 4000 := H.out.most
      have hL : LocL wr.heap.size (x1, x2, x3, x4, x5, x6, x7) (wr.alloc (.cells #[.int .i32 x1, .int .i32 x2, .int .i64 x3, .int .i64 x4, .int .i64 x5, .int .i64 x6, .int .i64 x7] 96)) := LocL.new wr (x1, x2, x3, x4, x5, x6, x7) _
      clear HC HS H hb
      by_cases hc : x3 ≠ 12 ∧ x3 ≠ 13
      · have HN : Hid (asgP (T.take (k + 1)) = asgP (T.take k) ++ [⟨x1, x2, hasP (x1, x2, x3, x4, x5, x6, x7) x3⟩]) := by
          show _ = _
          rw [HSn.out, lineRows, if_pos hc]
        have hc1 : (x3 != 12) = true := by simpa using hc.1
        have hc2 : (x3 != 13) = true := by simpa using hc.2
        clear hc
        go_wp2_with fail
        have HBa := hid (HB.out (.cells #[.int .i32 x1, .int .i32 x2, .int .i64 x3, .int .i64 x4, .int .i64 x5, .int .i64 x6, .int .i64 x7] 96))
        have HOa := hid (HOA.out (.cells #[.int .i32 x1, .int .i32 x2, .int .i64 x3, .int .i64 x4, .int .i64 x5, .int .i64 x6, .int .i64 x7] 96))
        clear HB HOA
        generalize wr.alloc (.cells #[.int .i32 x1, .int .i32 x2, .int .i64 x3, .int .i64 x4, .int .i64 x5, .int .i64 x6, .int .i64 x7] 96) = W2 at *
        generalize wr.heap.size = lb at *
        have HLL := hid hL
        have HH := hid (has_any W2.drew (x1, x2, x3, x4, x5, x6, x7) x3)
        generalize asgP (T.take k) = m at *
        obtain ⟨s0, s1, s2, s3, s4, s5, s6⟩ := hL
        simp only [lnv, cells7, trv] at HH s0 s1 s2 s3 s4 s5 s6
        clear d0 d1 d2 d3 d4 d5 d6
        go_region_held3 (fun w' => w'.cell? ⟨lb, 0, none⟩ = some (.int .i32 x1) ∧ w'.cell? ⟨lb, 1, none⟩ = some (.int .i32 x2) ∧ w'.cell? ⟨lb, 2, none⟩ = some (.int .i64 x3) ∧ w'.cell? ⟨lb, 3, none⟩ = some (.int .i64 x4) ∧ w'.cell? ⟨lb, 4, none⟩ = some (.int .i64 x5) ∧ w'.cell? ⟨lb, 5, none⟩ = some (.int .i64 x6) ∧ w'.cell? ⟨lb, 6, none⟩ = some (.int .i64 x7))
          (first | exact ⟨s0, s1, s2, s3, s4, s5, s6⟩ | exact HLa.out | exact HLb.out _ | exact HLc.out)
          (first
            | (go_at_call 50; refine HH.out.mono ?_; rintro e w2 ⟨rfl, hb2⟩; have HLa : Hid (LocL lb _ w2) := (HLL.out.of_block (w' := W2.drew) rfl).step hb2; have HLb := hid (fun o => HLa.out.alloc o); have HB2 := hid (HBa.out.drew.trans (hb2.mono HBa.out.size)); have HO2 := hid (own_below HOa.out.drew hb2); clear hb2)
            | (refine step_row7 rfl (.tmp 21) (.tmp 31) rfl w2 w.heap.size m.length (.slice ao2 m.length cap2) (m.flatMap tr7) ⟨x1, x2, hasP (x1, x2, x3, x4, x5, x6, x7) x3⟩ rfl rfl HO2.out (by omega) HB2.out.size ?_; intro g2 cap3 w3 ho3 hg3 hl3; have HO3 := hid ho3; have HB3 := hid ((HB2.out.alloc HB2.out.size _).trans (below_of_grown hg3 _ (by simp; have := HB2.out.size; omega) (fun k e => (HO2.out.lt k e).1))); have HLc : Hid (LocL lb _ w3) := (HLb.out _).of_block (hg3.block lb (by simp; have := HLa.out.lt; omega) (fun e => by have := HOL.out lb e.symm; omega)); clear ho3 hg3 hl3))
        go_wp2_with fail
        go_roundg (T.length - (k + 1))
        case measure => rw [HG.out]; omega
        case rel => exact ⟨k + 1, by omega, rfl, by go_num, ⟨by rw [HN.out]; simpa [List.flatMap_append] using HO3.out, HB3.out, HLe.out⟩⟩
      · obtain ⟨n, hn⟩ : ∃ n, n = (x2 - x1 + 1).toNat := ⟨_, rfl⟩
        have HN : Hid (asgP (T.take (k + 1)) = asgP (T.take k) ++ caseRows (x1, x2, x3, x4, x5, x6, x7) x1 n) := by
          show _ = _
          rw [HSn.out, lineRows, if_neg hc, hn]
        have HLn : Hid ((asgP (T.take k)).length + n ≤ 4000) := by
          have := HLe.out
          rw [HN.out, List.length_append, case_len] at this; exact this
        have hcc : (x3 != 12) = false ∨ ((x3 != 12) = true ∧ (x3 != 13) = false) := by
          by_cases h12 : x3 = 12
          · left; simp [h12]
          · right
            have h13 : x3 = 13 := by omega
            simp [h13]
        clear hc HSn
        rcases hcc with hc1 | ⟨hc1, hc2⟩
        all_goals
          go_wp2_with fail
          have HBa := hid (HB.out (.cells #[.int .i32 x1, .int .i32 x2, .int .i64 x3, .int .i64 x4, .int .i64 x5, .int .i64 x6, .int .i64 x7] 96))
          have HOa := hid (HOA.out (.cells #[.int .i32 x1, .int .i32 x2, .int .i64 x3, .int .i64 x4, .int .i64 x5, .int .i64 x6, .int .i64 x7] 96))
          have HLL := hid hL
          clear HB HOA hL
          generalize wr.alloc (.cells #[.int .i32 x1, .int .i32 x2, .int .i64 x3, .int .i64 x4, .int .i64 x5, .int .i64 x6, .int .i64 x7] 96) = W2 at *
          generalize wr.heap.size = lb at *
          generalize asgP (T.take k) = m at *
          clear d0 d1 d2 d3 d4 d5 d6
          go_loopg [6, 3] n (fun gg rv ov wq => ∃ j : Nat, j ≤ n ∧ gg = n - j ∧ rv = .int .i32 (x1 + j) ∧ Hid (AsgW w T (m ++ caseRows (x1, x2, x3, x4, x5, x6, x7) x1 j) ov wq ∧ LocL lb (x1, x2, x3, x4, x5, x6, x7) wq ∧ ov.ownBlock ≠ some lb))
          case atStart =>
            refine ⟨0, Nat.zero_le _, by omega, by simp, ⟨?_, HBa.out, by have := HLn.out; simp [caseRows]; omega⟩, HLL.out, fun e => by have := HOL.out lb e; omega⟩
            simpa [caseRows] using HOa.out
          case round =>
            clear HBa HOa HLL HOL
            obtain ⟨j, hj, hgj, rfl, HI⟩ := hrel
            have HGJ := hid hgj
            clear hgj
            obtain ⟨ao4, cap4, rfl⟩ := own_slice HI.out.1.own
            have HO4 := hid HI.out.1.own
            have HB4 := hid HI.out.1.bel
            have HL4 := hid HI.out.2.1
            have HNE := hid HI.out.2.2
            have hmj : (m ++ caseRows (x1, x2, x3, x4, x5, x6, x7) x1 j).length ≤ 4000 := HI.out.1.most
            obtain ⟨s0, s1, s2, s3, s4, s5, s6⟩ := HI.out.2.1
            simp only at s0 s1 s2 s3 s4 s5 s6
            clear HI
            by_cases hle : x1 + (j : Int) ≤ x2
            · have hjn : j < n := by omega
              have HSn := hid (case_snoc (x1, x2, x3, x4, x5, x6, x7) j x1)
              have HAL : Hid (m ++ caseRows (x1, x2, x3, x4, x5, x6, x7) x1 j ++ [⟨x1 + j, x1 + j, hasP (x1, x2, x3, x4, x5, x6, x7) (caseP (x1, x2, x3, x4, x5, x6, x7) (x1 + j))⟩] = m ++ caseRows (x1, x2, x3, x4, x5, x6, x7) x1 (j + 1)) := by
                show _ = _
                rw [HSn.out, List.append_assoc]
              have HM2 : Hid ((m ++ caseRows (x1, x2, x3, x4, x5, x6, x7) x1 (j + 1)).length ≤ 4000) := by
                show _ ≤ _
                have := HLn.out
                rw [List.length_append, case_len]; omega
              have er : Hid (x1 + (j : Int) + 1 = x1 + ((j + 1 : Nat) : Int)) := by show _ = _; omega
              have hr0 : 0 ≤ x1 + (j : Int) := by omega
              have hr1 : x1 + (j : Int) ≤ 1114111 := by omega
              have HCA := hid (caseAt_any wr.drew (x1, x2, x3, x4, x5, x6, x7) (x1 + j))
              have HHA := hid (fun w => has_any w (x1, x2, x3, x4, x5, x6, x7) (caseP (x1, x2, x3, x4, x5, x6, x7) (x1 + j)))
              simp only [lnv, cells7, trv] at HCA HHA
              generalize m ++ caseRows (x1, x2, x3, x4, x5, x6, x7) x1 j = out at *
              clear HSn
              go_wp2_with fail
              go_region_held3 (fun w' => w'.cell? ⟨lb, 0, none⟩ = some (.int .i32 x1) ∧ w'.cell? ⟨lb, 1, none⟩ = some (.int .i32 x2) ∧ w'.cell? ⟨lb, 2, none⟩ = some (.int .i64 x3) ∧ w'.cell? ⟨lb, 3, none⟩ = some (.int .i64 x4) ∧ w'.cell? ⟨lb, 4, none⟩ = some (.int .i64 x5) ∧ w'.cell? ⟨lb, 5, none⟩ = some (.int .i64 x6) ∧ w'.cell? ⟨lb, 6, none⟩ = some (.int .i64 x7))
                (first | exact ⟨s0, s1, s2, s3, s4, s5, s6⟩ | exact HLp.out | exact HLa.out | exact HLb.out _ | exact HLc.out)
                (first
                  | (go_at_call 51; refine HCA.out.mono ?_; rintro e w1 ⟨rfl, hb1⟩; have HLp : Hid (LocL lb _ w1) := (HL4.out.of_block (w' := wr.drew) rfl).step hb1; have HBp := hid (HB4.out.drew.trans (hb1.mono HB4.out.size)); have HOp := hid (own_below HO4.out.drew hb1); clear hb1)
                  | (go_at_call 50; refine (HHA.out _).mono ?_; rintro e w2 ⟨rfl, hb2⟩; have HLa : Hid (LocL lb _ w2) := HLp.out.step hb2; have HLb := hid (fun o => HLa.out.alloc o); have HB2 := hid (HBp.out.trans (hb2.mono HBp.out.size)); have HO2 := hid (own_below HOp.out hb2); clear hb2)
                  | (refine step_row7 rfl (.tmp 41) (.tmp 50) rfl w2 w.heap.size out.length (.slice ao4 out.length cap4) (out.flatMap tr7) ⟨x1 + j, x1 + j, hasP (x1, x2, x3, x4, x5, x6, x7) (caseP (x1, x2, x3, x4, x5, x6, x7) (x1 + j))⟩ rfl rfl HO2.out (by omega) HB2.out.size ?_; intro g2 cap3 w3 ho3 hg3 hl3; have HO3 := hid ho3; have HB3 := hid ((HB2.out.alloc HB2.out.size _).trans (below_of_grown hg3 _ (by simp; have := HB2.out.size; omega) (fun k e => (HO2.out.lt k e).1))); have HLc : Hid (LocL lb _ w3) := (HLb.out _).of_block (hg3.block lb (by simp; have := HLa.out.lt; omega) (fun e => HNE.out e.symm)); have HNE3 : Hid (Value.ownBlock (.slice (some ⟨g2, 0, none⟩) (out.length + 1) cap3) ≠ some lb) := (fun e => hl3.elim (fun e2 => HNE.out (e2.trans e)) (fun e2 => by have e3 := Option.some.inj e; have e4 := HLa.out.lt; simp only at e3; omega)); clear ho3 hg3 hl3))
              go_wp2_with fail
              go_roundg (n - (j + 1))
              case measure => rw [HGJ.out]; omega
              case rel => exact ⟨j + 1, by omega, rfl, by rw [← er.out], ⟨by rw [← HAL.out]; simpa [List.flatMap_append] using HO3.out, HB3.out, HM2.out⟩, HLc.out, HNE3.out⟩
            · have e : j = n := by omega
              subst e
              rw [← HN.out] at HO4 hmj
              rw [← HN.out]
              go_wp2_with fail
              go_roundg (T.length - (k + 1))
              case measure => rw [HG.out]; omega
              case rel => exact ⟨k + 1, by omega, rfl, by go_num, ⟨HO4.out, HB4.out, hmj⟩⟩
    · have e : k = T.length := by omega
      subst e
      have HF : Hid (AsgW w T (asgP T) (.slice ao2 (asgP T).length cap2) wr) := by
        have := H.out
        rw [List.take_length] at this; exact this
      rw [List.take_length]
      clear H HC HS
      go_wp2_with fail
      go_ret
      exact ⟨_, rfl, HF.out⟩
end Go.Proofs.Ytbamhbfncddieaa.Uc
