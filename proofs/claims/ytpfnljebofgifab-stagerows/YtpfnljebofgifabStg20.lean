import Derived.Test.YtpfnljebofgifabStg19
namespace Go.Proofs.Ytpfnljebofgifab
open Go.RowKit

/-- What Fewest has behind some rows. -/
structure FewW (w : World) (F : List (SRow Int)) (ov : Value) (wr : World) : Prop where
  own : wr.ownsRow w.heap.size 45 3 ov F.length (F.flatMap rCells)
  bel : Below w.heap.size w wr

theorem FewW.step {w wr w' : World} {F : List (SRow Int)} {ov : Value} (h : FewW w F ov wr) (hb : Below wr.heap.size wr w') : FewW w F ov w' :=
  ⟨own_keep h.own (fun k hk => hb.block k (h.own.lt k hk).2), h.bel.trans (hb.mono h.bel.size)⟩

theorem few_start (w : World) : FewW w [] (.slice (some ⟨w.heap.size, 0, none⟩) 0 0) (w.alloc (.cells #[] 45)) :=
  ⟨⟨rfl, .inr ⟨w.heap.size, 0, #[], rfl, Nat.le_refl _, heap_alloc_new w _, Nat.le_refl _, Nat.zero_le _, rfl, rfl⟩⟩, (Below.refl _ _).alloc (Nat.le_refl _) _⟩

theorem few_next {w W5 w6 : World} {F : List (SRow Int)} {ov v' : Value} {x : SRow Int} {o : Obj} {n : Nat} (hn : F.length = n) (h : FewW w F ov W5) (ho : w6.ownsRow w.heap.size 45 3 v' (n + 1) (F.flatMap rCells ++ rCells x)) (hg : (W5.alloc o).grownBy w6 ov.ownBlock) : FewW w (F ++ [x]) v' w6 := by
  subst hn
  have hg' : W5.grownBy w6 ov.ownBlock := (World.grownBy_alloc W5 o _).trans hg
  exact ⟨by rw [List.length_append, List.flatMap_append]; simpa using ho, h.bel.grown hg' h.bel.size (fun k e => (h.own.lt k e).1)⟩

set_option maxHeartbeats 8000000 in
set_option maxRecDepth 100000 in
theorem rfewest_any {w : World} {v : Value} {l : List (SRow Int)} (h : RIn w v l) (hl : l.length ≤ 60) (hr : Rising (-1) l) (other : Int) :
    Calls Try.prog 12 #[v, .int .i64 other] w fun e w' => ∃ v', e = .returned v' ∧ FewW w (l.foldl (stepF other) []) v' w' := by
  obtain ⟨ao, cap, rfl, hc⟩ := h
  have HC := hid hc
  have HRI := hid hr
  clear hc hr
  obtain ⟨i1, hi, hz0, hz1, hz2⟩ := info_parts Try.info_rrow
  have HJ := hid (And.intro hi (And.intro hz0 (And.intro hz1 hz2)))
  clear hi hz0 hz1 hz2
  have HS := hid (few_start w)
  go_enter Try.func12, Try.ntmps12
  go_wp2
  go_loopg [6, 5] l.length (fun g i ov wr => ∃ k : Nat, k ≤ l.length ∧ g = l.length - k ∧ i = .int .i64 k ∧ Hid (FewW w ((l.take k).foldl (stepF other) []) ov wr))
  case atStart => exact ⟨0, Nat.zero_le _, by omega, rfl, HS.out⟩
  case round =>
    clear HS
    obtain ⟨k, hk, hg, rfl, HF⟩ := hrel
    have HG := hid hg
    clear hg
    by_cases hlt : k < l.length
    · obtain ⟨gb, rfl, hgb, e0, e1, e2⟩ := HC.out k hlt
      have d0 := (HF.out.bel.cell (p := ⟨gb, k * 3, none⟩) hgb).trans e0
      have d1 := (HF.out.bel.cell (p := ⟨gb, k * 3 + 1, none⟩) hgb).trans e1
      have d2 := (HF.out.bel.cell (p := ⟨gb, k * 3 + 2, none⟩) hgb).trans e2
      have hx : Hid ((l.take (k + 1)).foldl (stepF other) [] = stepF other ((l.take k).foldl (stepF other) []) l[k]) := by
        show _ = _
        rw [take_succ' l k hlt, List.foldl_append]; rfl
      have hx0 := (rising_after l (-1) HRI.out k l[k] (List.getElem?_eq_getElem hlt)).1
      have hx1 := (rising_fine l (-1) HRI.out l[k] (List.getElem_mem hlt)).2
      have hxf := (rising_fine l (-1) HRI.out l[k] (List.getElem_mem hlt)).1
      have hflen : Hid (((l.take k).foldl (stepF other) []).length ≤ 60) := by
        have := fewest_len other (l.take k) []
        rw [List.length_take] at this
        simp at this
        show _ ≤ _; omega
      clear e0 e1 e2 HC
      generalize l[k] = x at *
      generalize (l.take k).foldl (stepF other) [] = F at *
      obtain ⟨xf, xt, xv⟩ := x
      simp only at d0 d1 d2 hx0 hx1 hxf
      have HB := hid ((Below.refl wr.heap.size wr).alloc (Nat.le_refl _) (.cells #[.int .i64 xf, .int .i64 xt, .int .i64 xv] 45))
      have HF1 := hid (HF.out.step HB.out)
      have hnew := heap_alloc_new wr (.cells #[.int .i64 xf, .int .i64 xt, .int .i64 xv] 45)
      by_cases c0 : xv = other
      · have HX : Hid (stepF other F ⟨xf, xt, xv⟩ = F) := if_pos c0
        obtain ⟨ao5, cap5, rfl⟩ := own_slice HF.out.own
        clear hnew HF
        subst c0
        go_wp2_with fail
        go_roundg (l.length - (k + 1))
        case measure => rw [HG.out]; omega
        case rel => exact ⟨k + 1, by omega, rfl, by go_num, by rw [hx.out, HX.out]; exact HF1.out⟩
      · have c0' : (xv == other) = false := by simpa using c0
        have q1 : IntKind.i64.wrap (xf - 1) = xf - 1 := by rw [IntKind.wrap_i64]; omega
        have q1' : wrap64 (xf - 1) = xf - 1 := by unfold wrap64; omega
        rcases List.eq_nil_or_concat F with hF0 | ⟨m, y, hF0⟩
        · subst hF0
          have HX : Hid (stepF other [] ⟨xf, xt, xv⟩ = [] ++ [⟨xf, xt, xv⟩]) := stepF_nil other _ c0
          obtain ⟨ao5, cap5, hov⟩ := own_slice HF1.out.own
          simp only [List.length_nil] at hov
          subst hov
          have HFN : Hid (0 ≤ 60) := by show 0 ≤ 60; omega
          have HNL : Hid (([] : List (SRow Int)).length = 0) := rfl
          go_wp2_with fail
          generalize hW4 : wr.alloc (.cells #[.int .i64 xf, .int .i64 xt, .int .i64 xv] 45) = W4 at *
          generalize hlb : wr.heap.size = lb at *
          obtain ⟨s0, s1, s2, _, _, _⟩ := blk3 hnew
          clear hW4 hlb HF
          have HLB : Hid (∀ n, (W4.drewN n).heap[lb]? = some (.cells #[.int .i64 xf, .int .i64 xt, .int .i64 xv] 45 (0, 0))) := fun n => hnew
          have HFD := hid (fun n => HF1.out.step (below_drewN (Below.refl _ W4) n))
          clear hnew
          go_quiet (fail)
          generalize hW5 : W4.drewN nq = W5 at *
          replace HLB := hid (HLB.out nq)
          have HF5 := hid (HFD.out nq)
          rw [hW5] at HLB HF5
          have HOW5 := HF5.out.own
          rw [HNL.out] at HOW5
          replace HOW5 := hid HOW5
          clear hW5 HFD HF1 s0 s1 s2
          go_wp2_with (first
            | (refine wpList_load_row rfl 45 (.tmp 7) rfl lb rfl 45 #[.int .i64 xf, .int .i64 xt, .int .i64 xv] (0, 0) _ HLB.out Try.underlying45 rfl (by kernel_rfl) ?_)
            | (at_builtin; refine wpList_append_own_at _ rfl (.tmp 58) (.tmp 60) 26 rfl w.heap.size 45 i1 (.agg #[.int .i64 0, .int .i64 0, .int .i64 0]) 3 24 Try.underlying26 HJ.out.1 HJ.out.2.1 HJ.out.2.2.1 HJ.out.2.2.2 rfl (by decide) (.slice ao5 0 cap5) 0 _ rfl (HOW5.out.alloc _) ⟨W5.heap.size, 0, none⟩ 1 1 (rCells ⟨xf, xt, xv⟩) rfl rfl (news3 (heap_alloc_new W5 _)) (fun u hu => by simp [rCells] at hu; rcases hu with rfl | rfl | rfl <;> rfl) (by unfold maxLen; have := HFN.out; omega) (by have := HFN.out; omega) (by simp; have := HF5.out.bel.size; omega) ?_; intro v' w6 ho hg6 hnil hloc; obtain ⟨ao6, cap6, rfl⟩ := own_slice ho; have HF6 := hid (few_next HNL.out HF5.out ho hg6); clear ho hg6 hnil hloc))
          go_roundg (l.length - (k + 1))
          case measure => rw [HG.out]; omega
          case rel => exact ⟨k + 1, by omega, rfl, by go_num, by rw [hx.out, HX.out]; exact HF6.out⟩
        · rw [List.concat_eq_append] at hF0
          subst hF0
          have hgs : ∃ g cap, u5 = .slice (some ⟨g, 0, none⟩) (m.length + 1) cap := by
            have := HF1.out.own
            rw [List.length_append] at this
            rcases this.2 with ⟨_, h2⟩ | ⟨g, cap, cur, h2, _⟩
            · simp at h2
            · exact ⟨g, cap, h2⟩
          obtain ⟨g5, cap5, rfl⟩ := hgs
          have HNL : Hid ((m ++ [y]).length = m.length + 1) := by show _ = _; simp
          have HFN : Hid (m.length + 1 ≤ 60) := by have := hflen.out; rw [List.length_append] at this; exact this
          have hm60 : (m.length : Int) + 1 ≤ 60 := by have := HFN.out; omega
          have hown4 : (wr.alloc (.cells #[.int .i64 xf, .int .i64 xt, .int .i64 xv] 45)).ownsRow w.heap.size 45 3 (.slice (some ⟨g5, 0, none⟩) (m.length + 1) cap5) (m.length + 1) ((m ++ [y]).flatMap rCells) := by
            have := HF1.out.own
            rw [List.length_append] at this
            exact this
          obtain ⟨k1, k2, k3, k4⟩ := own_last (c := rCells) (fun _ => rfl) hown4 (.int .i64 xt)
          have HK4 := hid k4
          have hg5 := hid (hown4.lt g5 rfl).1
          clear hown4 k4
          have z1 : wrap64 ((m.length : Int) + 1 - 1) = (m.length : Int) := by unfold wrap64; omega
          have z2 : (m.length : Int) + 1 - 1 = (m.length : Int) := by omega
          have z3 : IntKind.i64.wrap ((m.length : Int) + 1 - 1) = (m.length : Int) := by rw [IntKind.wrap_i64]; omega
          have z4 : (0 : Int) < (m.length : Int) + 1 := by omega
          have z5 : (0 : Int) ≤ (m.length : Int) ∧ (m.length : Int) < (m.length : Int) + 1 := by omega
          by_cases c1 : y.t = xf - 1
          · by_cases c2 : y.v = xv
            · have HX : Hid (stepF other (m ++ [y]) ⟨xf, xt, xv⟩ = m ++ [⟨y.f, xt, y.v⟩]) := by
                show _ = _
                rw [stepF_snoc other m y _ c0, if_pos ⟨c1, c2⟩, setLast_snoc]
              have c1' : (y.t == xf - 1) = true := by simpa using c1
              have c2' : (y.v == xv) = true := by simpa using c2
              have HBL := hid HF1.out.bel
              clear c1 c2
              obtain ⟨yt, hyt⟩ : ∃ yt, yt = y.t := ⟨_, rfl⟩
              obtain ⟨yv, hyv⟩ : ∃ yv, yv = y.v := ⟨_, rfl⟩
              rw [← hyt] at k1 c1'
              rw [← hyv] at k2 c2'
              clear hyt hyv
              go_wp2_with fail
              generalize hW4 : wr.alloc (.cells #[.int .i64 xf, .int .i64 xt, .int .i64 xv] 45) = W4 at *
              generalize hlb : wr.heap.size = lb at *
              obtain ⟨s0, s1, s2, _, _, _⟩ := blk3 hnew
              clear hW4 hlb HF hnew
              go_quiet (fail)
              go_wp2_with fail
              go_roundg (l.length - (k + 1))
              case measure => rw [HG.out]; omega
              case rel =>
                refine ⟨k + 1, by omega, rfl, by go_num, ?_⟩
                rw [hx.out, HX.out]
                refine ⟨?_, (below_drewN HBL.out nq).setCell (p := ⟨g5, m.length * 3 + 1, none⟩) hg5.out _⟩
                rw [List.length_append, List.flatMap_append]
                exact own_keep HK4.out (fun _ _ => rfl)
            · have HX : Hid (stepF other (m ++ [y]) ⟨xf, xt, xv⟩ = (m ++ [y]) ++ [⟨xf, xt, xv⟩]) := by
                show _ = _
                rw [stepF_snoc other m y _ c0, if_neg (fun h => c2 h.2)]
              have c1' : (y.t == xf - 1) = true := by simpa using c1
              have c2' : (y.v == xv) = false := by simpa using c2
              clear HK4 k3 c1 c2
              obtain ⟨yt, hyt⟩ : ∃ yt, yt = y.t := ⟨_, rfl⟩
              obtain ⟨yv, hyv⟩ : ∃ yv, yv = y.v := ⟨_, rfl⟩
              rw [← hyt] at k1 c1'
              rw [← hyv] at k2 c2'
              clear hyt hyv
              go_wp2_with fail
              generalize hW4 : wr.alloc (.cells #[.int .i64 xf, .int .i64 xt, .int .i64 xv] 45) = W4 at *
              generalize hlb : wr.heap.size = lb at *
              obtain ⟨s0, s1, s2, _, _, _⟩ := blk3 hnew
              clear hW4 hlb HF
              have HLB : Hid (∀ n, (W4.drewN n).heap[lb]? = some (.cells #[.int .i64 xf, .int .i64 xt, .int .i64 xv] 45 (0, 0))) := fun n => hnew
              have HFD := hid (fun n => HF1.out.step (below_drewN (Below.refl _ W4) n))
              clear hnew
              go_quiet (fail)
              generalize hW5 : W4.drewN nq = W5 at *
              replace HLB := hid (HLB.out nq)
              have HF5 := hid (HFD.out nq)
              rw [hW5] at HLB HF5
              have HOW5 := HF5.out.own
              rw [HNL.out] at HOW5
              replace HOW5 := hid HOW5
              clear hW5 HFD HF1 s0 s1 s2
              go_wp2_with (first
                | (refine wpList_load_row rfl 45 (.tmp 7) rfl lb rfl 45 #[.int .i64 xf, .int .i64 xt, .int .i64 xv] (0, 0) _ HLB.out Try.underlying45 rfl (by kernel_rfl) ?_)
                | (at_builtin; refine wpList_append_own_at _ rfl (.tmp 58) (.tmp 60) 26 rfl w.heap.size 45 i1 (.agg #[.int .i64 0, .int .i64 0, .int .i64 0]) 3 24 Try.underlying26 HJ.out.1 HJ.out.2.1 HJ.out.2.2.1 HJ.out.2.2.2 rfl (by decide) (.slice (some ⟨g5, 0, none⟩) (m.length + 1) cap5) (m.length + 1) _ rfl (HOW5.out.alloc _) ⟨W5.heap.size, 0, none⟩ 1 1 (rCells ⟨xf, xt, xv⟩) rfl rfl (news3 (heap_alloc_new W5 _)) (fun u hu => by simp [rCells] at hu; rcases hu with rfl | rfl | rfl <;> rfl) (by unfold maxLen; have := HFN.out; omega) (by have := HFN.out; omega) (by simp; have := HF5.out.bel.size; omega) ?_; intro v' w6 ho hg6 hnil hloc; obtain ⟨ao6, cap6, rfl⟩ := own_slice ho; have HF6 := hid (few_next HNL.out HF5.out ho hg6); clear ho hg6 hnil hloc))
              go_roundg (l.length - (k + 1))
              case measure => rw [HG.out]; omega
              case rel => exact ⟨k + 1, by omega, rfl, by go_num, by rw [hx.out, HX.out]; exact HF6.out⟩
          · have HX : Hid (stepF other (m ++ [y]) ⟨xf, xt, xv⟩ = (m ++ [y]) ++ [⟨xf, xt, xv⟩]) := by
              show _ = _
              rw [stepF_snoc other m y _ c0, if_neg (fun h => c1 h.1)]
            have c1' : (y.t == xf - 1) = false := by simpa using c1
            clear HK4 k3 c1
            have HYT := hid (rfl : y.t = y.t)
            obtain ⟨yt, hyt⟩ : ∃ yt, yt = y.t := ⟨_, rfl⟩
            rw [← hyt] at k1 c1'
            clear hyt HYT k2
            go_wp2_with fail
            generalize hW4 : wr.alloc (.cells #[.int .i64 xf, .int .i64 xt, .int .i64 xv] 45) = W4 at *
            generalize hlb : wr.heap.size = lb at *
            obtain ⟨s0, s1, s2, _, _, _⟩ := blk3 hnew
            clear hW4 hlb HF
            have HLB : Hid (∀ n, (W4.drewN n).heap[lb]? = some (.cells #[.int .i64 xf, .int .i64 xt, .int .i64 xv] 45 (0, 0))) := fun n => hnew
            have HFD := hid (fun n => HF1.out.step (below_drewN (Below.refl _ W4) n))
            clear hnew
            go_quiet (fail)
            generalize hW5 : W4.drewN nq = W5 at *
            replace HLB := hid (HLB.out nq)
            have HF5 := hid (HFD.out nq)
            rw [hW5] at HLB HF5
            have HOW5 := HF5.out.own
            rw [HNL.out] at HOW5
            replace HOW5 := hid HOW5
            clear hW5 HFD HF1 s0 s1 s2
            go_wp2_with (first
              | (refine wpList_load_row rfl 45 (.tmp 7) rfl lb rfl 45 #[.int .i64 xf, .int .i64 xt, .int .i64 xv] (0, 0) _ HLB.out Try.underlying45 rfl (by kernel_rfl) ?_)
              | (at_builtin; refine wpList_append_own_at _ rfl (.tmp 58) (.tmp 60) 26 rfl w.heap.size 45 i1 (.agg #[.int .i64 0, .int .i64 0, .int .i64 0]) 3 24 Try.underlying26 HJ.out.1 HJ.out.2.1 HJ.out.2.2.1 HJ.out.2.2.2 rfl (by decide) (.slice (some ⟨g5, 0, none⟩) (m.length + 1) cap5) (m.length + 1) _ rfl (HOW5.out.alloc _) ⟨W5.heap.size, 0, none⟩ 1 1 (rCells ⟨xf, xt, xv⟩) rfl rfl (news3 (heap_alloc_new W5 _)) (fun u hu => by simp [rCells] at hu; rcases hu with rfl | rfl | rfl <;> rfl) (by unfold maxLen; have := HFN.out; omega) (by have := HFN.out; omega) (by simp; have := HF5.out.bel.size; omega) ?_; intro v' w6 ho hg6 hnil hloc; obtain ⟨ao6, cap6, rfl⟩ := own_slice ho; have HF6 := hid (few_next HNL.out HF5.out ho hg6); clear ho hg6 hnil hloc))
            go_roundg (l.length - (k + 1))
            case measure => rw [HG.out]; omega
            case rel => exact ⟨k + 1, by omega, rfl, by go_num, by rw [hx.out, HX.out]; exact HF6.out⟩
    · have e : k = l.length := by omega
      subst e
      rw [List.take_length] at HF
      obtain ⟨ao5, cap5, rfl⟩ := own_slice HF.out.own
      generalize hs : l.foldl (stepF other) [] = F at HF ⊢
      have HSE := hid hs
      clear hs HC
      go_wp2_with fail
      go_ret
      exact ⟨_, rfl, by rw [HSE.out]; exact HF.out⟩
end Go.Proofs.Ytpfnljebofgifab
