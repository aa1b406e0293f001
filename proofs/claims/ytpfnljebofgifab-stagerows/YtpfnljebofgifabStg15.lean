import Derived.Test.YtpfnljebofgifabStg14
namespace Go.Proofs.Ytpfnljebofgifab
open Go.RowKit

theorem Try.info_rrow : (Try.prog.info? 45).map (fun i => (i.zero, i.size, i.bytes)) = some (some (.agg #[.int .i64 0, .int .i64 0, .int .i64 0]), 3, 24) := by kernel_rfl

/-- The two slices behind k rows. -/
structure RowsW (w : World) (l m : List (SRow Int)) (av bv : Value) (wr : World) : Prop where
  a : wr.ownsRow w.heap.size 43 3 av l.length (l.flatMap vCells)
  b : wr.ownsRow w.heap.size 45 3 bv m.length (m.flatMap rCells)
  apart : av.ownBlock = none ∨ bv.ownBlock = none ∨ av.ownBlock ≠ bv.ownBlock
  bel : Below w.heap.size w wr

theorem own_keep {w w' : World} {B n size : Nat} {e : TypeId} {v : Value} {xs : List Value} (h : w.ownsRow B e size v n xs) (hb : ∀ k, v.ownBlock = some k → w'.heap[k]? = w.heap[k]?) : w'.ownsRow B e size v n xs := by
  refine ⟨h.1, ?_⟩
  rcases h.2 with h1 | ⟨g, cap, cur, e, h2, h3, h4⟩
  · exact .inl h1
  · exact .inr ⟨g, cap, cur, e, h2, by rw [hb g (by rw [e]; rfl)]; exact h3, h4⟩

section
variable {w : World} {l m : List (SRow Int)} {av bv : Value} {wr w' : World}
theorem RowsW.step (h : RowsW w l m av bv wr) (hb : Below wr.heap.size wr w') : RowsW w l m av bv w' :=
  ⟨own_keep h.a (fun k hk => hb.block k (h.a.lt k hk).2), own_keep h.b (fun k hk => hb.block k (h.b.lt k hk).2), h.apart, h.bel.trans (hb.mono h.bel.size)⟩
theorem RowsW.alloc (h : RowsW w l m av bv wr) (o : Obj) : RowsW w l m av bv (wr.alloc o) := h.step ((Below.refl _ _).alloc (Nat.le_refl _) o)

theorem RowsW.nextA (h : RowsW w l m av bv wr) {x : SRow Int} {o : Obj} {v' : Value} (ho : w'.ownsRow w.heap.size 43 3 v' (l.length + 1) (l.flatMap vCells ++ vCells x)) (hg : (wr.alloc o).grownBy w' av.ownBlock) (hloc : v'.ownBlock = av.ownBlock ∨ v'.ownBlock = some (wr.heap.size + 1)) : RowsW w (l ++ [x]) m v' bv w' := by
  have hg' : wr.grownBy w' av.ownBlock := (World.grownBy_alloc wr o _).trans hg
  refine ⟨by rw [List.length_append, List.flatMap_append]; simpa using ho, own_keep h.b (fun k hk => hg'.block k (h.b.lt k hk).2 (fun e => ?_)), ?_, h.bel.grown hg' h.bel.size (fun k e => (h.a.lt k e).1)⟩
  · rcases h.apart with e1 | e1 | e1
    · rw [e1] at e; simp at e
    · rw [e1] at hk; simp at hk
    · exact e1 (by rw [hk, e])
  · rcases hloc with e | e
    · rw [e]; exact h.apart
    · cases e2 : bv.ownBlock with
      | none => exact .inr (.inl rfl)
      | some g => exact .inr (.inr (fun e3 => by rw [e] at e3; simp at e3; have := (h.b.lt g e2).2; omega))
theorem RowsW.nextB (h : RowsW w l m av bv wr) {x : SRow Int} {o : Obj} {v' : Value} (ho : w'.ownsRow w.heap.size 45 3 v' (m.length + 1) (m.flatMap rCells ++ rCells x)) (hg : (wr.alloc o).grownBy w' bv.ownBlock) (hloc : v'.ownBlock = bv.ownBlock ∨ v'.ownBlock = some (wr.heap.size + 1)) : RowsW w l (m ++ [x]) av v' w' := by
  have hg' : wr.grownBy w' bv.ownBlock := (World.grownBy_alloc wr o _).trans hg
  refine ⟨own_keep h.a (fun k hk => hg'.block k (h.a.lt k hk).2 (fun e => ?_)), by rw [List.length_append, List.flatMap_append]; simpa using ho, ?_, h.bel.grown hg' h.bel.size (fun k e => (h.b.lt k e).1)⟩
  · rcases h.apart with e1 | e1 | e1
    · rw [e1] at hk; simp at hk
    · rw [e1] at e; simp at e
    · exact e1 (by rw [hk, e])
  · rcases hloc with e | e
    · rw [e]; exact h.apart
    · cases e2 : av.ownBlock with
      | none => exact .inl rfl
      | some g => exact .inr (.inr (fun e3 => by rw [e] at e3; simp at e3; have := (h.a.lt g e2).2; omega))
end

theorem loc_keep {wr w' : World} {o o2 : Obj} {av : Value} {B n size : Nat} {e : TypeId} {xs : List Value} (h : wr.ownsRow B e size av n xs) (hg : ((wr.alloc o).alloc o2).grownBy w' av.ownBlock) : w'.heap[wr.heap.size]? = some o :=
  (hg.block wr.heap.size (by simp; omega) (fun e => by have := (h.lt _ e.symm).2; omega)).trans ((Below.heap_alloc _ _ _ (by simp)).trans (heap_alloc_new wr o))

theorem heap_two (w : World) (a o : Obj) : ((w.alloc a).alloc o).heap[w.heap.size + 1]? = some o := by
  have := heap_alloc_last (w.alloc a) o
  simpa using this
theorem news3 {w : World} {B : Nat} {x y z : Value} {t : TypeId} (hb : w.heap[B]? = some (.cells #[x, y, z] t)) : ∀ j u, [x, y, z][j]? = some u → w.cell? ((⟨B, 0, none⟩ : Addr).add j) = some u := by
  intro j u hj
  rw [add_none, cell_of_row w B _ _ _ _ hb]
  simpa using hj

theorem ok_i32 {a : Int} (h : (Lit.int .i32 a).wf = true) : -2147483648 ≤ a ∧ a ≤ 2147483647 := by
  have e1 : IntKind.i32.min = -2147483648 := by decide
  have e2 : IntKind.i32.max = 2147483647 := by decide
  simp only [Lit.wf, e1, e2, Bool.and_eq_true, decide_eq_true_eq] at h; exact h
theorem ok_u8 {a : Int} (h : (Lit.int .u8 a).wf = true) : 0 ≤ a ∧ a ≤ 255 := by
  have e1 : IntKind.u8.min = 0 := by decide
  have e2 : IntKind.u8.max = 255 := by decide
  simp only [Lit.wf, e1, e2, Bool.and_eq_true, decide_eq_true_eq] at h; exact h

set_option maxHeartbeats 4000000 in
set_option maxRecDepth 100000 in
theorem rows_any {w : World} {v : Value} {l : List (SRow Int)} (h : LIn w v l) (hl : l.length ≤ 60) :
    Calls Try.prog 7 #[v] w fun e w' => ∃ av bv, e = .returned (.tuple #[av, bv]) ∧ RowsW w l l av bv w' := by
  obtain ⟨ao, cap, rfl, hc⟩ := h
  have HC := hid hc
  clear hc
  obtain ⟨i0, hi, hz0, hz1, hz2⟩ := info_parts Try.info_vrow
  have HI := hid (And.intro hi (And.intro hz0 (And.intro hz1 hz2)))
  clear hi hz0 hz1 hz2
  obtain ⟨i1, hi, hz0, hz1, hz2⟩ := info_parts Try.info_rrow
  have HJ := hid (And.intro hi (And.intro hz0 (And.intro hz1 hz2)))
  clear hi hz0 hz1 hz2
  go_enter Try.func7, Try.ntmps7
  go_wp2
  go_loopg [10, 4, 5] l.length (fun g i av bv wr => ∃ k : Nat, k ≤ l.length ∧ g = l.length - k ∧ i = .int .i64 k ∧ RowsW w (l.take k) (l.take k) av bv wr)
  case atStart => exact ⟨0, Nat.zero_le _, by omega, rfl, World.ownsRow_nil _ _ _ _, World.ownsRow_nil _ _ _ _, .inl rfl, Below.refl _ _⟩
  case round =>
    obtain ⟨k, hk, hg, rfl, hR⟩ := hrel
    have HG := hid hg
    clear hg
    by_cases hlt : k < l.length
    · obtain ⟨hok, gb, off, rfl, hgb, e0, e1, e2⟩ := HC.out k hlt
      have d0 := (hR.bel.cell (p := ⟨gb, off + k * 3, none⟩) hgb).trans e0
      have d1 := (hR.bel.cell (p := ⟨gb, off + k * 3 + 1, none⟩) hgb).trans e1
      have d2 := (hR.bel.cell (p := ⟨gb, off + k * 3 + 2, none⟩) hgb).trans e2
      clear e0 e1 e2
      have hx := hid (take_succ' l k hlt)
      have hlk : Hid ((l.take k).length = k) := by show _ = _; rw [List.length_take]; omega
      generalize l[k] = x at *
      obtain ⟨xf, xt, xv⟩ := x
      obtain ⟨o0, o1, o2⟩ := hok
      have r0 := ok_i32 o0
      have r1 := ok_i32 o1
      have r2 := ok_u8 o2
      simp only at r0 r1 r2 d0 d1 d2
      clear o0 o1 o2
      have q0 : wrap64 xf = xf := by unfold wrap64; omega
      have q1 : wrap64 xt = xt := by unfold wrap64; omega
      have q2 : wrap64 xv = xv := by unfold wrap64; omega
      obtain ⟨ao1, cap1, rfl⟩ := own_slice hR.a
      obtain ⟨ao2, cap2, rfl⟩ := own_slice hR.b
      have hsz := hid hR.bel.size
      have HR := hid hR
      have HRl := hid (hR.alloc (.cells #[.int .i32 xf, .int .i32 xt, .int .u8 xv] 35))
      clear hR
      generalize l.take k = tk at *
      go_wp2_with (first
        | (at_builtin; refine wpList_append_own_at _ rfl (.tmp 14) (.tmp 23) 25 rfl w.heap.size 43 i0 (.agg #[.int .i32 0, .int .i32 0, .int .i64 0]) 3 16 Try.underlying25 HI.out.1 HI.out.2.1 HI.out.2.2.1 HI.out.2.2.2 rfl (by decide) (.slice ao1 tk.length cap1) _ _ rfl (HRl.out.a.alloc _) ⟨wr.heap.size + 1, 0, none⟩ 1 1 (vCells ⟨xf, xt, xv⟩) rfl rfl (news3 (heap_two wr _ _)) (fun u hu => by simp [vCells] at hu; rcases hu with rfl | rfl | rfl <;> rfl) (by unfold maxLen; have := hlk.out; omega) (by have := hlk.out; omega) (by simp; have := hsz.out; omega) ?_; intro v' w3 ho hg hnil hloc; obtain ⟨ao3, cap3, rfl⟩ := own_slice ho; have hl3 := loc_keep HR.out.a hg; obtain ⟨y0, y1, y2, _, _, _⟩ := blk3 hl3; have HR3 := hid (HRl.out.nextA ho hg (hloc.imp id (fun h => by simpa using h))); clear ho hg hnil hloc hl3)
        | (at_builtin; refine wpList_append_own_at _ rfl (.tmp 25) (.tmp 36) 26 rfl w.heap.size 45 i1 (.agg #[.int .i64 0, .int .i64 0, .int .i64 0]) 3 24 Try.underlying26 HJ.out.1 HJ.out.2.1 HJ.out.2.2.1 HJ.out.2.2.2 rfl (by decide) (.slice ao2 tk.length cap2) _ _ rfl (HR3.out.b.alloc _) ⟨w3.heap.size, 0, none⟩ 1 1 (rCells ⟨xf, xt, xv⟩) rfl rfl (news3 (heap_alloc_new w3 _)) (fun u hu => by simp [rCells] at hu; rcases hu with rfl | rfl | rfl <;> rfl) (by unfold maxLen; have := hlk.out; omega) (by have := hlk.out; omega) (by simp; have := HR3.out.bel.size; omega) ?_; intro v' w4 ho hg hnil hloc; obtain ⟨ao4, cap4, rfl⟩ := own_slice ho; have HR4 := hid (HR3.out.nextB ho hg (hloc.imp id (fun h => by simpa using h))); clear ho hg hnil hloc))
      go_roundg (l.length - (k + 1))
      case measure => rw [HG.out]; omega
      case rel => exact ⟨k + 1, by omega, rfl, by go_num, by rw [hx.out]; exact HR4.out⟩
    · have e : k = l.length := by omega
      subst e
      rw [List.take_length] at hR
      have HR := hid hR
      obtain ⟨ao1, cap1, rfl⟩ := own_slice hR.a
      obtain ⟨ao2, cap2, rfl⟩ := own_slice hR.b
      clear hR HC
      go_wp2
      go_ret2
      exact ⟨_, _, rfl, HR.out⟩
end Go.Proofs.Ytpfnljebofgifab
