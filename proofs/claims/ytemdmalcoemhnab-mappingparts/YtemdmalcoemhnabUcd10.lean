import Derived.Test.YtemdmalcoemhnabUcd9
import Derived.Lib.AppendZeros
namespace Go.Proofs.Ytemdmalcoemhnab.Uc
open Go.RowKit

theorem Try.info_line : (Try.prog.info? 78).map (fun i => (i.zero, i.size, i.bytes)) = some (some (.agg #[.int .i32 0, .int .i32 0, .int .i64 0, .int .i64 0, .int .i64 0, .int .i64 0, .int .i64 0]), 7, 48) := by kernel_rfl

/-- slices.Grow of nil by n. -/
theorem grow_any (n : Nat) (w : World) (h0 : 0 < n) (h1 : n ≤ 5000) :
    Calls Try.prog 45 #[.slice none 0 0, .int .i64 n] w fun e w' => ∃ g cap, e = .returned (.slice (some ⟨g, 0, none⟩) 0 cap) ∧ w'.ownsRow w.heap.size 78 7 (.slice (some ⟨g, 0, none⟩) 0 cap) 0 [] ∧ Below w.heap.size w w' := by
  obtain ⟨i0, hi, hz0, hz1, hz2⟩ := info_parts Try.info_line
  have hb : n * i0.bytes ≤ 281474976710656 := by rw [hz2]; omega
  have hr := fun ty => Lib.run_append_nil_zeros (P := Try.prog) w 47 3 ty 78 i0 _ .i64 .i64 Try.underlying47 Try.underlying3 hi hz0 n h0 (by rw [hz1]; decide) (by omega) hb
  have HR := hid hr
  have hge := grownCap_ge w n 0 78
  have hle := grownCap_le_maxLen w n 0 78 (by unfold maxLen; omega)
  clear hr hb
  generalize grownCap w n 0 78 = c at *
  have HOwn : Hid (∀ cur : Array Value, cur.size = c * 7 → (w.drew.alloc (.cells cur 78)).ownsRow w.heap.size 78 7 (.slice (some ⟨w.heap.size, 0, none⟩) 0 c) 0 []) := fun cur hcur =>
    ⟨rfl, .inr ⟨w.heap.size, c, cur, rfl, Nat.le_refl _, heap_alloc_new w.drew _, Nat.zero_le _, hle, hcur, by simp⟩⟩
  have HBel := hid (fun o => ((Below.refl w.heap.size w).drew).alloc (Nat.le_refl _) o)
  have n0 : (0 : Int) < (n : Int) := by omega
  have n1 : ¬ ((n : Int) < 0) := by omega
  go_enter Try.func45, Try.ntmps45
  go_wp2_with (at_builtin; refine Lib.wpList_append_run _ rfl (.tmp 20) (.tmp 21) 47 3 rfl (.slice none 0 0) (.int .i64 n) rfl rfl _ _ (HR.out _) ?_)
  go_ret
  exact ⟨_, _, rfl, HOwn.out _ (by simp only [Array.size_append, size_zeroCells, List.size_toArray, List.length_cons, List.length_nil]; omega), HBel.out _⟩

/-- A list of parts, each in a block of its own. -/
def Parts (W : World) (b : Nat) (ps : List (Nat × List Ln)) : Prop :=
  b < W.heap.size ∧ ∀ k (h : k < ps.length), W.cell? ⟨b, k, none⟩ = some (.slice (some ⟨ps[k].1, 0, none⟩) ps[k].2.length ps[k].2.length) ∧ W.heap[ps[k].1]? = some (.cells (ps[k].2.flatMap cells7).toArray 78)

def joinL (ps : List (Nat × List Ln)) : List Ln := ps.flatMap (·.2)
theorem joinL_snoc (ps : List (Nat × List Ln)) (k : Nat) (h : k < ps.length) : joinL (ps.take (k + 1)) = joinL (ps.take k) ++ ps[k].2 := by
  unfold joinL
  rw [List.take_succ_eq_append_getElem h, List.flatMap_append]; simp
theorem joinL_le (ps : List (Nat × List Ln)) (k : Nat) : (joinL (ps.take k)).length ≤ (joinL ps).length := by
  have : joinL ps = joinL (ps.take k) ++ joinL (ps.drop k) := by unfold joinL; rw [← List.flatMap_append, List.take_append_drop]
  rw [this, List.length_append]; omega
theorem cells7_len (l : List Ln) : (l.flatMap cells7).length = l.length * 7 := by
  induction l with
  | nil => rfl
  | cons x l ih => simp only [List.flatMap_cons, List.length_append, ih, List.length_cons, cells7, List.length_nil]; omega
theorem cells7_one (l : List Ln) : ∀ u ∈ l.flatMap cells7, u.oneCell' = true := by
  intro u hu
  obtain ⟨x, _, hx⟩ := List.mem_flatMap.1 hu
  simp [cells7] at hx
  rcases hx with rfl | rfl | rfl | rfl | rfl | rfl | rfl <;> rfl

structure CatW (w : World) (ps : List (Nat × List Ln)) (k : Nat) (ov : Value) (wr : World) : Prop where
  own : wr.ownsRow w.heap.size 78 7 ov (joinL (ps.take k)).length ((joinL (ps.take k)).flatMap cells7)
  bel : Below w.heap.size w wr

set_option maxHeartbeats 2000000 in
set_option maxRecDepth 100000 in
theorem concat_any {w : World} {b : Nat} {ps : List (Nat × List Ln)} (h : Parts w b ps) (h0 : 0 < (joinL ps).length) (h1 : (joinL ps).length ≤ 5000) (hp : ps.length ≤ 100) :
    Calls Try.prog 30 #[.slice (some ⟨b, 0, none⟩) ps.length ps.length] w fun e w' => ∃ v, e = .returned v ∧ w'.ownsRow w.heap.size 78 7 v (joinL ps).length ((joinL ps).flatMap cells7) ∧ Below w.heap.size w w' := by
  have HP := hid h
  clear h
  have HG := hid (fun w => grow_any (joinL ps).length w h0 h1)
  go_enter Try.func30, Try.ntmps30
  go_wp2_with fail
  go_loop [11, 3] (fun i n => ∃ k : Nat, k ≤ ps.length ∧ i = .int .i64 k ∧ n = .int .i64 (joinL (ps.take k)).length) (fun i _ => ps.length - (intOf i).toNat)
  case atStart => exact ⟨0, Nat.zero_le _, rfl, rfl⟩
  case round =>
    obtain ⟨k, hk, rfl, rfl⟩ := hrel
    have hle := joinL_le ps k
    by_cases hlt : k < ps.length
    · have hle2 := joinL_le ps (k + 1)
      obtain ⟨hc, _⟩ := HP.out.2 k hlt
      have hs : Hid (((joinL (ps.take (k + 1))).length : Int) = (joinL (ps.take k)).length + (ps[k].2.length : Int)) := by
        show _ = _
        rw [joinL_snoc ps k hlt, List.length_append]; omega
      have hb2 : ((joinL (ps.take k)).length : Int) + (ps[k].2.length : Int) ≤ 5000 := by have := hs.out; omega
      have b1 : (0 : Int) ≤ k ∧ (k : Int) < (ps.length : Int) := by omega
      clear HP HG
      generalize ps[k] = x at *
      generalize (joinL (ps.take k)).length = m at *
      generalize x.2.length = m2 at *
      go_wp2_with fail
      go_round
      case rel => exact ⟨k + 1, by omega, by go_num, by rw [hs.out]⟩
      case measure => simp [intOf]; omega
    · have e : k = ps.length := by omega
      subst e
      have e1 : Hid ((joinL (ps.take ps.length)).length = (joinL ps).length) := by show _ = _; rw [List.take_length]
      rw [e1.out] at hle ⊢
      clear e1
      go_wp2_with (go_at_call 45; refine (HG.out _).mono ?_; rintro e w1 ⟨g1, cap1, rfl, ho1, hb1⟩; have HO1 := hid ho1; have HB1 := hid hb1; clear ho1 hb1)
      go_loopg [27, 6] ps.length (fun g i ov wr => ∃ k : Nat, k ≤ ps.length ∧ g = ps.length - k ∧ i = .int .i64 k ∧ Hid (CatW w ps k ov wr))
      case atStart => exact ⟨0, Nat.zero_le _, by omega, rfl, ⟨HO1.out, HB1.out⟩⟩
      case round =>
        clear HO1 HB1 HG
        obtain ⟨k, hk2, hg, rfl, H⟩ := hrel
        have HGG := hid hg
        clear hg
        obtain ⟨ao2, cap2, rfl⟩ := own_slice H.out.own
        by_cases hlt2 : k < ps.length
        · have hle2 := joinL_le ps (k + 1)
          have b1 : (0 : Int) ≤ k ∧ (k : Int) < (ps.length : Int) := by omega
          obtain ⟨hbl, hpp⟩ := HP.out
          obtain ⟨hc, hx⟩ := hpp k hlt2
          have hb := H.out.bel
          have hc' := (hb.cell (p := ⟨b, k, none⟩) hbl).trans hc
          have hx' := hid ((hb.block ps[k].1 (Array.getElem?_eq_some_iff.1 hx).1).trans hx)
          have HS := hid (joinL_snoc ps k hlt2)
          have HL : Hid ((joinL (ps.take k)).length + ps[k].2.length ≤ 5000) := by
            show _ ≤ _
            rw [joinL_snoc ps k hlt2, List.length_append] at hle2; omega
          have HO := hid H.out.own
          have HB := hid hb
          clear hpp hc hx hb H hle2 hbl
          generalize ps[k] = x at *
          obtain ⟨xb, xl⟩ := x
          simp only at hc' hx' HS HL
          obtain ⟨i0, hi, hz0, hz1, hz2⟩ := info_parts Try.info_line
          have HI := hid (And.intro hi (And.intro hz0 (And.intro hz1 hz2)))
          clear hi hz0 hz1 hz2
          generalize joinL (ps.take k) = m at *
          go_wp2_with (at_builtin; refine wpList_append_own_at _ rfl (.tmp 31) (.tmp 32) 47 rfl w.heap.size 78 i0 (.agg #[.int .i32 0, .int .i32 0, .int .i64 0, .int .i64 0, .int .i64 0, .int .i64 0, .int .i64 0]) 7 48 Try.underlying47 HI.out.1 HI.out.2.1 HI.out.2.2.1 HI.out.2.2.2 rfl (by decide) (.slice ao2 m.length cap2) m.length (m.flatMap cells7) rfl HO.out ⟨xb, 0, none⟩ xl.length xl.length (xl.flatMap cells7) rfl (cells7_len xl) (World.news_of_block hx'.out) (cells7_one xl) (by have := HL.out; unfold maxLen; omega) (by have := HL.out; omega) (HB.out.size) ?_; intro v' w' h1 h2 _ _; have HO2 := hid h1; have HB2 := hid (HB.out.trans (below_of_grown h2 _ HB.out.size (fun k e => (HO.out.lt k e).1))); clear h1 h2)
          go_roundg (ps.length - (k + 1))
          case measure => rw [HGG.out]; omega
          case rel =>
            refine ⟨k + 1, by omega, rfl, by go_num, ⟨?_, HB2.out⟩⟩
            rw [HS.out, List.length_append, List.flatMap_append]
            exact HO2.out
        · have e : k = ps.length := by omega
          subst e
          have HO : Hid (wr.ownsRow w.heap.size 78 7 (.slice ao2 (joinL ps).length cap2) (joinL ps).length ((joinL ps).flatMap cells7)) := by
            have := H.out.own
            rw [List.take_length] at this; exact this
          have HB := hid H.out.bel
          rw [List.take_length]
          clear H
          go_wp2_with fail
          go_ret
          exact ⟨_, rfl, HO.out, HB.out⟩
end Go.Proofs.Ytemdmalcoemhnab.Uc
