import Derived.Test.YtbamhbfncddieaaStg1
import Derived.Deep.WholeRow
import Derived.Deep.LoopGhost
import Derived.Deep.Cut
import Derived.Deep.CutRange
namespace Go.Proofs.Ytbamhbfncddieaa.Uc
open Go.RowKit

def z256 : Array Value := Array.replicate 256 (.int .u16 0)
theorem z256_zero (w : World) : (zeroValue 126).run Try.prog w = .ok (.agg z256) w := by kernel_rfl

/-- A slice of numbered rows. -/
def RowsIn (w : World) (v : Value) (l : List (SRow Nat)) : Prop :=
  (l = [] ∧ ∃ a cap, v = .slice a 0 cap) ∨ ∃ g off cap, v = .slice (some ⟨g, off, none⟩) l.length cap ∧ l.length ≤ cap ∧ g < w.heap.size ∧ ∀ j (h : j < l.length),
    w.cell? ⟨g, off + j * 3, none⟩ = some (.int .i32 l[j].f) ∧ w.cell? ⟨g, off + j * 3 + 1, none⟩ = some (.int .i32 l[j].t) ∧ w.cell? ⟨g, off + j * 3 + 2, none⟩ = some (.int .u16 l[j].v)

theorem RowsIn.step {w w' : World} {v : Value} {l : List (SRow Nat)} (h : RowsIn w v l) (hb : ∀ k, k < w.heap.size → v.ownBlock = some k → w'.heap[k]? = w.heap[k]?) : RowsIn w' v l := by
  rcases h with h | ⟨g, off, cap, e, hcap, hlt, hc⟩
  · exact .inl h
  · have hk := hb g hlt (by rw [e]; rfl)
    have hg : g < w'.heap.size := by
      rcases Nat.lt_or_ge g w'.heap.size with h | h
      · exact h
      · rw [Array.getElem?_eq_none h, Array.getElem?_eq_getElem hlt] at hk; simp at hk
    refine .inr ⟨g, off, cap, e, hcap, hg, fun j hj => ?_⟩
    have := hc j hj
    rw [World.cell?_of_block (a := ⟨g, off + j * 3, none⟩) hk, World.cell?_of_block (a := ⟨g, off + j * 3 + 1, none⟩) hk, World.cell?_of_block (a := ⟨g, off + j * 3 + 2, none⟩) hk]
    exact this

theorem RowsIn.slice {w : World} {v : Value} {l : List (SRow Nat)} (h : RowsIn w v l) : ∃ ao cap, v = .slice ao l.length cap ∧ l.length ≤ cap ∧ ∀ k (hk : k < l.length), ∃ g off, ao = some ⟨g, off, none⟩ ∧ g < w.heap.size ∧
    w.cell? ⟨g, off + k * 3, none⟩ = some (.int .i32 l[k].f) ∧ w.cell? ⟨g, off + k * 3 + 1, none⟩ = some (.int .i32 l[k].t) ∧ w.cell? ⟨g, off + k * 3 + 2, none⟩ = some (.int .u16 l[k].v) := by
  rcases h with ⟨rfl, a, cap, rfl⟩ | ⟨g, off, cap, rfl, hcap, hlt, hc⟩
  · exact ⟨a, cap, rfl, Nat.zero_le _, fun k hk => absurd hk (by simp)⟩
  · exact ⟨_, cap, rfl, hcap, fun k hk => ⟨g, off, rfl, hlt, hc k hk⟩⟩

/-- Rows that a block's numbering takes: all ends are code points. -/
def Fine (l : List (SRow Nat)) : Prop := ∀ x ∈ l, 0 ≤ x.f ∧ x.f ≤ x.t ∧ x.t ≤ 1114111 ∧ x.v < 65536

/-- A block's cells. -/
def blkF (num : Int → Nat) (first : Int) (j : Nat) : Value := .int .u16 (num (first + j))

theorem rising_after {α : Type} : ∀ (l : List (SRow α)) (a : Int), Rising a l → ∀ (k : Nat) (x : SRow α), l[k]? = some x → a < x.f ∧ ∀ (j : Nat) (y : SRow α), k < j → l[j]? = some y → x.t < y.f
  | [], _, _, k, x, h => by simp at h
  | r :: l, a, h, k, x, hk => by
    obtain ⟨h1, h2, h3, h4⟩ := h
    cases k with
    | zero =>
      simp at hk; subst hk
      refine ⟨h1, fun j y hj hy => ?_⟩
      cases j with
      | zero => omega
      | succ j => exact (rising_after l _ h4 j y (by simpa using hy)).1
    | succ k =>
      have := rising_after l _ h4 k x (by simpa using hk)
      refine ⟨by omega, fun j y hj hy => ?_⟩
      cases j with
      | zero => omega
      | succ j => exact this.2 j y (by omega) (by simpa using hy)

theorem at_drop_none {α : Type} (z : α) : ∀ (l : List (SRow α)) (r : Int), (∀ x ∈ l, ¬ (x.f ≤ r ∧ r ≤ x.t)) → at' z l r = z
  | [], _, _ => rfl
  | x :: l, r, h => by
    have h0 := h x (by simp)
    have := at_drop_none z l r (fun y hy => h y (by simp [hy]))
    simp only [at', List.foldl_cons] at this ⊢
    rw [if_neg h0]; exact this

theorem at_append {α : Type} (z : α) (l m : List (SRow α)) (r : Int) : at' z (l ++ m) r = at' (at' z l r) m r := by simp [at', List.foldl_append]

theorem at_take {α : Type} (z : α) (l : List (SRow α)) (k : Nat) (r : Int) (h : ∀ (j : Nat) (y : SRow α), k ≤ j → l[j]? = some y → r < y.f) : at' z (l.take k) r = at' z l r := by
  conv => rhs; rw [← List.take_append_drop k l]
  rw [at_append]
  refine (at_drop_none _ _ _ ?_).symm
  intro x hx
  obtain ⟨j, hj⟩ := List.mem_iff_getElem?.1 hx
  rw [List.getElem?_drop] at hj
  have := h (k + j) x (by omega) hj
  omega

theorem take_succ' {α : Type} (l : List α) (k : Nat) (h : k < l.length) : l.take (k + 1) = l.take k ++ [l[k]] := List.take_succ_eq_append_getElem h

/-- The block that is cut, and the one that is handed back. -/
structure CutW (w : World) (f : Nat → Value) (wr : World) : Prop where
  out : wr.rowIs w.heap.size 126 256 (fun _ => .int .u16 0)
  row : wr.rowIs (w.heap.size + 1) 126 256 f
  bel : Below w.heap.size w wr
  size : w.heap.size + 2 ≤ wr.heap.size

theorem CutW.start (w : World) (f : Nat → Value) (hf : ∀ j, f j = .int .u16 0) : CutW w f ((w.alloc (.cells z256 126)).alloc (.cells z256 126)) := by
  have hz : ∀ i, i < z256.size → z256[i]? = some (.int .u16 0) := fun i hi => by
    have : i < 256 := by simpa [z256] using hi
    simp [z256, this]
  have h1 := World.rowIs_alloc w z256 126 (fun _ => .int .u16 0) hz
  have h2 := World.rowIs_alloc (w.alloc (.cells z256 126)) z256 126 (fun _ => .int .u16 0) hz
  have e : z256.size = 256 := by simp [z256]
  rw [e] at h1 h2
  have e2 : (w.alloc (.cells z256 126)).heap.size = w.heap.size + 1 := by simp
  rw [e2] at h2
  exact ⟨h1.alloc _, h2.congr (fun i _ => (hf i).symm), ((Below.refl _ _).alloc (Nat.le_refl _) _).alloc (by simp) _, by simp⟩

theorem CutW.alloc {w wr : World} {f : Nat → Value} (h : CutW w f wr) (o : Obj) : CutW w f (wr.alloc o) :=
  ⟨h.out.alloc o, h.row.alloc o, h.bel.alloc (by have := h.size; omega) o, by have := h.size; simp; omega⟩
theorem CutW.set {w wr : World} {f : Nat → Value} (h : CutW w f wr) (i : Nat) (x : Value) : CutW w (fun j => if j = i then x else f j) (wr.setCell ⟨w.heap.size + 1, i, none⟩ x) :=
  ⟨h.out.setOther (by simp) x, h.row.set i x, h.bel.setCell (p := ⟨w.heap.size + 1, i, none⟩) (by simp) x, by have := h.size; simpa [World.setCell] using this⟩
theorem CutW.congr {w wr : World} {f g : Nat → Value} (h : CutW w f wr) (e : ∀ j, j < 256 → f j = g j) : CutW w g wr := ⟨h.out, h.row.congr e, h.bel, h.size⟩

theorem i32_max (a b : Int) : (if a < b then b else a) = max a b := by split <;> omega
theorem i32_min (a b : Int) : (if b < a then b else a) = min a b := by split <;> omega

theorem Try.info_blk : (Try.prog.info? 126).map (·.size) = some 256 := by kernel_rfl

theorem cut_end {w wr : World} {num : Int → Nat} {first : Int} (h : CutW w (fun j => blkF num first j) wr) : ∃ c z : Array Value, (Hid (wr.heap[w.heap.size + 1]? = some (.cells c 126 (0, 0))) ∧ Hid ((Try.prog.info? 126).map (·.size) = some c.size) ∧
    Hid (wr.heap[w.heap.size]? = some (.cells z 126 (0, 0))) ∧ Hid (z.size = c.size) ∧ Hid (c.all (·.oneCell') = true) ∧ Hid ((wr.setRow w.heap.size c).heap[w.heap.size]? = some (.cells c 126 (0, 0))) ∧ Hid (c.size = 256 ∧ ∀ j, j < 256 → c[j]? = some (blkF num first j))) ∧
    Below w.heap.size w (wr.setRow w.heap.size c) := by
  obtain ⟨c, hb, hn, hc⟩ := h.row
  obtain ⟨z, zb, zn, _⟩ := h.out
  refine ⟨c, z, ⟨hb, by show _ = _; rw [hn]; exact Try.info_blk, zb, by show _ = _; omega, ?_, setRow_heap wr _ z c _ _ zb, hn, hc⟩, ?_⟩
  · show _ = _
    rw [Array.all_eq_true]
    intro i hi
    have := hc i (by omega)
    rw [Array.getElem?_eq_getElem hi] at this
    simp at this; rw [this]; rfl
  · exact h.bel.trans ⟨rfl, rfl, rfl, by simp, fun k hk => setRow_other wr _ k _ (by omega)⟩

theorem blk3 {w : World} {b : Nat} {x y z : Value} {t : TypeId} (h : w.heap[b]? = some (.cells #[x, y, z] t)) :
    w.cell? ⟨b, 0, none⟩ = some x ∧ w.cell? ⟨b, 1, none⟩ = some y ∧ w.cell? ⟨b, 2, none⟩ = some z ∧ w.frozen? ⟨b, 0, none⟩ = false ∧ w.frozen? ⟨b, 1, none⟩ = false ∧ w.frozen? ⟨b, 2, none⟩ = false := by
  simp [World.cell?, World.frozen?, h]

set_option maxHeartbeats 4000000 in
set_option maxRecDepth 100000 in
theorem cut_any {w : World} {v : Value} {l : List (SRow Nat)} (h : RowsIn w v l) (a : Int) (hr : Rising a l) (hf : Fine l) (hl : l.length ≤ 5000) (first : Int) (h0 : 0 ≤ first) (h1 : first ≤ 1113856) :
    Calls Try.prog 76 #[v, .int .i32 first] w fun e w' => ∃ c : Array Value, e = .returned (.agg c) ∧ c.size = 256 ∧ (∀ j, j < 256 → c[j]? = some (blkF (at' 0 l) first j)) ∧ Below w.heap.size w w' := by
  have hz := z256_zero
  obtain ⟨ao, cap, rfl, _, hc⟩ := h.slice
  have HC := hid hc
  have HR := hid (And.intro hr hf)
  clear hc h hr hf
  have HS := hid (CutW.start w (fun j => blkF (at' 0 (l.take 0)) first j) (fun j => by simp [blkF, at']))
  go_enter Try.func76, Try.ntmps76
  go_wp2
  go_loopg [15] l.length (fun g i wr => ∃ k : Nat, k ≤ l.length ∧ g = l.length - k ∧ i = .int .i64 k ∧ CutW w (fun j => blkF (at' 0 (l.take k)) first j) wr)
  case atStart => exact ⟨0, Nat.zero_le _, by omega, rfl, HS.out⟩
  case round =>
    clear HS
    obtain ⟨k, hk, hg, rfl, hcw⟩ := hrel
    have HG := hid hg
    clear hg
    by_cases hlt : k < l.length
    · obtain ⟨gb, off, rfl, hgb, e0, e1, e2⟩ := HC.out k hlt
      have d0 := (hcw.bel.cell (p := ⟨gb, off + k * 3, none⟩) hgb).trans e0
      have d1 := (hcw.bel.cell (p := ⟨gb, off + k * 3 + 1, none⟩) hgb).trans e1
      have d2 := (hcw.bel.cell (p := ⟨gb, off + k * 3 + 2, none⟩) hgb).trans e2
      have HQ := hid (HR.out.2 l[k] (List.getElem_mem hlt))
      clear e0 e1 e2
      have hx := hid (take_succ' l k hlt)
      have hkx : Hid (l[k]? = some l[k]) := List.getElem?_eq_getElem hlt
      generalize l[k] = x at *
      obtain ⟨xf, xt, xv⟩ := x
      obtain ⟨p1, p2, p3, p4⟩ := HQ.out
      simp only at p1 p2 p3 p4 d0 d1 d2
      clear HQ
      by_cases hbr : first + 256 - 1 < xf
      · have HT : Hid (CutW w (fun j => blkF (at' 0 l) first j) (wr.alloc (.cells #[.int .i32 xf, .int .i32 xt, .int .u16 xv] 124))) := by
          refine (hcw.alloc _).congr (fun j hj => ?_)
          show Value.int .u16 _ = Value.int .u16 _
          rw [at_take]
          intro i y hi hy
          have hra := rising_after l a HR.out.1 k _ hkx.out
          by_cases e : i = k
          · subst e
            have := hkx.out.symm.trans hy
            simp at this
            rw [← this]; simp only; omega
          · have := hra.2 i y (by omega) hy
            simp only at this; omega
        obtain ⟨c, z, ⟨g1, g2, g3, g4, g5, g6, g7⟩, HEND⟩ := cut_end HT.out
        clear hcw HT hkx hx HR HC
        go_wp2_with (first | (refine wpList_load_row rfl 126 (.tmp 5) rfl (w.heap.size + 1) rfl 126 c (0, 0) _ g1.out Try.underlying126 rfl g2.out ?_) | (refine wpList_store_row rfl 126 (.tmp 4) (.tmp 42) rfl w.heap.size c rfl rfl 126 z g3.out g2.out g4.out g5.out ?_))
        exact bodyPost_ret (v := .agg c) (results_cell_row Try.results76 _ _ w.heap.size 126 c (0, 0) _ rfl g6.out Try.underlying126 rfl g2.out) rfl ⟨c, rfl, g7.out.1, g7.out.2, HEND⟩
      · have hsz := hcw.size
        replace hcw := hcw.alloc (.cells #[.int .i32 xf, .int .i32 xt, .int .u16 xv] 124)
        have hnew : (wr.alloc (.cells #[.int .i32 xf, .int .i32 xt, .int .u16 xv] 124)).heap[wr.heap.size]? = some (.cells #[.int .i32 xf, .int .i32 xt, .int .u16 xv] 124) := heap_alloc_new wr _
        have HN := hid (And.intro hcw hnew)
        have hcw' : Hid (w.heap.size + 2 ≤ wr.heap.size) := hsz
        clear hcw hnew
        have hxf : ¬ first + 256 - 1 < xf := hbr
        go_wp2
        all_goals
          generalize wr.alloc (.cells #[.int .i32 xf, .int .i32 xt, .int .u16 xv] 124) = W2 at *
          generalize wr.heap.size = lb at *
          clear d0 d1 d2
          go_loopg [9] (min xt (first + 255) + 1 - max xf first).toNat (fun g i wx => ∃ r : Int, i = .int .i32 r ∧ max xf first ≤ r ∧ r ≤ max (max xf first) (min xt (first + 255) + 1) ∧ g = (min xt (first + 255) + 1 - r).toNat ∧
            wx.heap[lb]? = some (.cells #[.int .i32 xf, .int .i32 xt, .int .u16 xv] 124) ∧
            CutW w (fun j => if max xf first ≤ first + j ∧ first + (j : Int) < r then .int .u16 xv else blkF (at' 0 (l.take k)) first j) wx)
          case atStart =>
            refine ⟨_, rfl, by omega, by omega, by congr 1; omega, HN.out.2, HN.out.1.congr (fun j _ => ?_)⟩
            rw [if_neg (by omega)]
          case round =>
            clear HN
            obtain ⟨r, rfl, r1, r2, hgr, hloc, hcx⟩ := hrel
            obtain ⟨c0, c1, c2, _, _, _⟩ := blk3 hloc
            have HGR := hid hgr
            clear hgr
            by_cases hin : r ≤ xt ∧ r ≤ first + 255
            · obtain ⟨i1, i2⟩ := hin
              obtain ⟨j0, rfl⟩ : ∃ j0 : Nat, r = first + j0 := ⟨(r - first).toNat, by omega⟩
              have hj0 : j0 < 256 := by omega
              have cj := hcx.row.cell hj0
              have fj := hcx.row.frozen j0
              have q1 : first + (j0 : Int) - first = (j0 : Int) := by omega
              have HX := hid (hcx.set j0 (.int .u16 xv))
              have HL := hid ((Below.heap_setCell wr ⟨w.heap.size + 1, j0, none⟩ (.int .u16 xv) lb (by have := hcw'.out; simp; omega)).trans hloc)
              clear hcx hloc
              go_wp2
              all_goals
                go_roundg (min xt (first + 255) + 1 - (first + j0 + 1)).toNat
                case measure => rw [HGR.out]; omega
                case rel =>
                  refine ⟨first + j0 + 1, rfl, by omega, by omega, rfl, HL.out, HX.out.congr (fun j _ => ?_)⟩
                  by_cases e : j = j0
                  · subst e; rw [if_pos rfl, if_pos (by omega)]
                  · rw [if_neg e]
                    by_cases e2 : max xf first ≤ first + j ∧ first + (j : Int) < first + j0
                    · rw [if_pos e2, if_pos (by omega)]
                    · rw [if_neg e2, if_neg (by omega)]
            · have HE : Hid (CutW w (fun j => blkF (at' 0 (l.take (k + 1))) first j) wr) := by
                refine hcx.congr (fun j hj => ?_)
                rw [hx.out]
                show _ = Value.int .u16 _
                rw [at_snoc]
                by_cases e2 : max xf first ≤ first + j ∧ first + (j : Int) < r
                · rw [if_pos e2, if_pos (by simp only; omega)]
                · rw [if_neg e2, if_neg (by simp only; omega)]; rfl
              clear hcx hx hkx
              by_cases hm : first + 256 - 1 < xt
              · have hm2 : ¬ r ≤ first + 256 - 1 := by omega
                clear hin
                go_wp2
                all_goals
                  go_roundg (l.length - (k + 1))
                  case measure => rw [HG.out]; omega
                  case rel => exact ⟨k + 1, by omega, rfl, by go_num, HE.out⟩
              · have hm2 : ¬ r ≤ xt := by omega
                clear hin
                go_wp2
                all_goals
                  go_roundg (l.length - (k + 1))
                  case measure => rw [HG.out]; omega
                  case rel => exact ⟨k + 1, by omega, rfl, by go_num, HE.out⟩
    · have e : k = l.length := by omega
      subst e
      rw [List.take_length] at hcw
      obtain ⟨c, z, ⟨g1, g2, g3, g4, g5, g6, g7⟩, HEND⟩ := cut_end hcw
      clear hcw HR HC
      go_wp2_with (first | (refine wpList_load_row rfl 126 (.tmp 5) rfl (w.heap.size + 1) rfl 126 c (0, 0) _ g1.out Try.underlying126 rfl g2.out ?_) | (refine wpList_store_row rfl 126 (.tmp 4) (.tmp 42) rfl w.heap.size c rfl rfl 126 z g3.out g2.out g4.out g5.out ?_))
      exact bodyPost_ret (v := .agg c) (results_cell_row Try.results76 _ _ w.heap.size 126 c (0, 0) _ rfl g6.out Try.underlying126 rfl g2.out) rfl ⟨c, rfl, g7.out.1, g7.out.2, HEND⟩
end Go.Proofs.Ytbamhbfncddieaa.Uc
