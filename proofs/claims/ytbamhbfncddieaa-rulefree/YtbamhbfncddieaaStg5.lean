import Derived.Test.YtbamhbfncddieaaStg4b
namespace Go.Proofs.Ytbamhbfncddieaa.Uc
open Go.RowKit
open Go.Maps (Keyed IsMap)

theorem zero_u16 (w : World) : (zeroValue 102).run Try.prog w = .ok (.int .u16 0) w := by kernel_rfl

section
variable {w : World} {p : Nat} {f : Nat → Value} {k : Nat} {bl : List (List Nat)} {pl : List Nat} {bv : Value} {wr w' : World}

theorem LayW.cells (h : LayW w p f k bl pl bv wr) : wr.cell? ⟨p, 1, none⟩ = some bv ∧ ∀ o, wr.frozen? ⟨p, o, none⟩ = false :=
  ⟨by have := h.row.cell (i := 1) (by omega); simpa using this, h.row.frozen⟩
theorem LayW.placeCell (h : LayW w p f k bl pl bv wr) (hk : k < 4352) : ∃ v, wr.cell? ⟨p, 2 + k, none⟩ = some v := ⟨_, h.row.cell (i := 2 + k) (by omega)⟩
theorem LayW.bvSlice (h : LayW w p f k bl pl bv wr) : ∃ ao cap, bv = .slice ao bl.length cap := own_slice h.own
end

/-- What the walk needs behind cut, in the world in which the block stands in a variable. -/
structure AtBlk (w : World) (p : Nat) (f : Nat → Value) (k : Nat) (bl : List (List Nat)) (pl : List Nat) (bv : Value) (b : List Nat) (W : World) (lb : Nat) : Prop where
  lay : LayW w p f k bl pl bv W
  blk : W.heap[lb]? = some (.cells (u16s b).toArray 126 (0, 0))
  lt : w.heap.size < lb

theorem map_kept {w W w3 : World} {p lb : Nat} {bv : Value} {C : Array Value} {t : TypeId} (hg : W.grownBy w3 (some w.heap.size)) (hc : W.cell? ⟨p, 1, none⟩ = some bv) (h : p < W.heap.size ∧ lb < W.heap.size ∧ w.heap.size < lb) (hp : p < w.heap.size) (hb : W.heap[lb]? = some (.cells C t (0, 0))) :
    w3.cell? ⟨p, 1, none⟩ = some bv ∧ w3.heap[lb]? = some (.cells C t (0, 0)) :=
  ⟨hg.cell hc (by simp; omega), (hg.block lb h.2.1 (by simp; omega)).trans hb⟩

theorem own_ne {w : World} {p : Nat} {f : Nat → Value} {k : Nat} {bl : List (List Nat)} {pl : List Nat} {bv : Value} {W : World} (h : LayW w p f k bl pl bv W) : bv.ownBlock = none ∨ bv.ownBlock ≠ some w.heap.size := by
  cases e : bv.ownBlock with
  | none => exact .inl rfl
  | some g => exact .inr (fun e2 => by have := (h.ownLt e).1; simp at e2; omega)

theorem new_cells {w3 w5 : World} {p : Nat} {bv : Value} {o : Obj} (hc : w3.cell? ⟨p, 1, none⟩ = some bv) (hg : (w3.drew.alloc o).grownBy w5 bv.ownBlock) (hp : bv.ownBlock ≠ some p) : w5.cell? ⟨p, 1, none⟩ = some bv := by
  have hlt : p < w3.heap.size := World.block_lt_of_cell? w3 ⟨p, 1, none⟩ hc
  have e : w5.heap[p]? = w3.heap[p]? := (hg.block p (by simp; omega) (fun e => hp e.symm)).trans (Below.heap_alloc w3.drew _ _ hlt)
  exact (World.cell?_of_block (a := ⟨p, 1, none⟩) e).trans hc

theorem new_frozen {w w5 : World} {p : Nat} {f : Nat → Value} {k : Nat} {bl : List (List Nat)} {pl : List Nat} {bv v' : Value} (h : LayW w p f k bl pl bv (w5.setCell ⟨p, 1, none⟩ v')) : w5.frozen? ⟨p, 1, none⟩ = false := by
  have := h.cells.2 1
  rwa [World.frozen?_setCell] at this

theorem new_cell1 {w3 : World} {p : Nat} {bv : Value} {o : Obj} (hc : w3.cell? ⟨p, 1, none⟩ = some bv) : (w3.alloc o).cell? ⟨p, 1, none⟩ = some bv :=
  (World.cell?_alloc_some w3 ⟨p, 1, none⟩ o (by rw [hc]; rfl)).trans hc

theorem blk_info {b : List Nat} (h : BlkOk b) : (Try.prog.info? 126).map (·.size) = some (u16s b).toArray.size := by
  rw [Try.info_blk]; simp [u16s, h.1]
theorem blk_hold {b : List Nat} (h : BlkOk b) : z256.size = (u16s b).toArray.size := by simp [u16s, h.1, z256]
theorem blk_one (b : List Nat) : (u16s b).toArray.all (·.oneCell') = true := by
  rw [Array.all_eq_true_iff_forall_mem]
  intro v hv
  simp [u16s] at hv
  obtain ⟨n, _, rfl⟩ := hv
  rfl
theorem lit_inj {q : IntKind} {a b : Int} (h : (DataW.lit (.int q a) : DataW Unit) = .lit (.int q b)) : a = b := by
  injection h with h; injection h

set_option maxHeartbeats 4000000 in
set_option maxRecDepth 100000 in
theorem lay_any {w : World} {p : Nat} {f : Nat → Value} (hrow : w.rowIs p 105 4354 f) (hf1 : f 1 = .slice none 0 0) {v : Value} {l : List (SRow Nat)} (h : RowsIn w v l) (hv : v.ownBlock ≠ some p) (a : Int) (hr : Rising a l) (hf : Fine l) (hl : l.length ≤ 5000) :
    Calls Try.prog 59 #[.pointer (some ⟨p, 0, none⟩), v] w fun e w' => e = .returned (.tuple #[]) ∧ ∃ bl pl, (∃ bv, LayW w p f 4352 bl pl bv w') ∧ LaidTo (at' 0 l) 4352 bl pl := by
  have hmm := @run_makeMap Try.prog
  have hz := z256_zero
  have HS : Hid (LayW w p f 0 [] [] (.slice none 0 0) (w.alloc (.map #[] 0))) := by
    refine ⟨⟨_, World.ownsMap_made _ _ _ _, MapOk.nil⟩, World.ownsRow_nil _ _ _ _, (hrow.alloc _).congr (fun j _ => ?_), (Chg.refl _ _).alloc _, by simp, hrow.lt, fun b hb => by simp at hb⟩
    by_cases e0 : j = 0
    · subst e0; rfl
    · by_cases e1 : j = 1
      · subst e1; simp [hf1]
      · simp [e0, e1]
  have HR := hid (And.intro hr (And.intro hf h))
  clear h hr hf hf1 hrow
  go_enter Try.func59, Try.ntmps59
  go_wp2
  go_loopg [11, 1] 4352 (fun g i rv wr => ∃ k bl pl bv d, k ≤ 4352 ∧ g = 4352 - k ∧ i = .int .i64 (k : Nat) ∧ Left w p l (256 * (k : Int)) rv d ∧ LayW w p f k bl pl bv wr ∧ LaidTo (at' 0 l) k bl pl)
  case atStart => exact ⟨0, [], [], _, 0, by omega, by omega, rfl, ⟨HR.out.2.2, hv, fun x hx => by simp at hx⟩, HS.out, LaidTo.nil _⟩
  case round =>
    clear HS
    obtain ⟨k, bl, pl, bv, d, hk, hg, rfl, hleft, hlay, hlaid⟩ := hrel
    have HG := hid hg
    have HL := hid hlay
    have HT := hid hleft
    have HP := hid hlaid
    clear hg hlay hleft hlaid
    by_cases hlt : k < 4352
    · have q1 : wrap64 ((k : Int) * 256) = (k : Int) * 256 := by unfold wrap64; omega
      have q2 : wrap32 ((k : Int) * 256) = (k : Int) * 256 := by unfold wrap32; omega
      have hlt' : (k : Int) < 4352 := by omega
      go_wp2
      go_loop [1] (fun rv => ∃ d, Hid (Left w p l (256 * (k : Int)) rv d)) (fun rv => lenOf rv)
      case atStart => exact ⟨d, HT.out⟩
      case round =>
        clear HT
        obtain ⟨d, HT⟩ := hrel
        by_cases hstep : ∃ x r, l.drop d = x :: r ∧ x.t < 256 * (k : Int)
        · obtain ⟨x, r, hd, hx⟩ := hstep
          obtain ⟨g, off, cap, rfl, ct, h1, h2⟩ := (HL.out.rows (show RowsIn w _ (x :: r) by rw [← hd]; exact HT.out.rows) HT.out.own).head
          obtain ⟨g', off', cap', e', ct', n1, n2⟩ := (show RowsIn w _ (x :: r) by rw [← hd]; exact HT.out.rows).head
          cases e'
          have hx' : x.t < (k : Int) * 256 := by omega
          have HN1 := hid (fun e : cap = 1 => HT.out.next hd hx (n1 e) HT.out.own)
          have HN2 := hid (fun e : ¬ cap = 1 => HT.out.next hd hx (n2 e) HT.out.own)
          clear h1 h2 n1 n2 ct' hd hx
          generalize x.t = xt at *
          by_cases hc1 : cap = 1
          · have HN := hid (HN1.out hc1)
            clear HN1 HN2
            subst hc1
            go_wp2
            all_goals
              go_round
              case rel => exact ⟨d + 1, HN.out⟩
              case measure => simp [lenOf]
          · have HN := hid (HN2.out hc1)
            clear HN1 HN2
            go_wp2
            all_goals
              go_round
              case rel => exact ⟨d + 1, HN.out⟩
              case measure => simp [lenOf]
        · have hrv : (∃ ao cap, u1 = .slice ao 0 cap) ∨ ∃ g off n cap t, u1 = .slice (some ⟨g, off, none⟩) (n + 1) cap ∧ wr.cell? ⟨g, off + 1, none⟩ = some (.int .i32 t) ∧ ¬ t < (k : Int) * 256 := by
            have h1 := HL.out.rows HT.out.rows HT.out.own
            cases hd : l.drop d with
            | nil =>
              rw [hd] at h1
              obtain ⟨ao, cap, e, _⟩ := h1.slice
              exact .inl ⟨ao, cap, e⟩
            | cons x r =>
              rw [hd] at h1
              obtain ⟨g, off, cap, e, ct, _⟩ := h1.head
              exact .inr ⟨g, off, r.length, cap, x.t, e, ct, fun e => hstep ⟨x, r, hd, by omega⟩⟩
          have HC := hid (lay_cut HL.out HT.out a HR.out.1 HR.out.2.1 hl hlt)
          have HT2 := hid (HT.out.mono (b' := 256 * ((k + 1 : Nat) : Int)) (by omega))
          have hbo := blkN_ok (at' 0 l) k (at_lt l HR.out.2.1)
          clear hstep HR HT
          have HKEY := hid hbo
          clear hbo
          rcases hrv with ⟨ao, cap, rfl⟩ | ⟨g, off, n, cap, t, rfl, ct, hnt⟩
          all_goals
            go_wp2_with fail
            refine HC.out.mono ?_
            rintro e w1 ⟨rfl, hb1⟩
            have HA : Hid (AtBlk w p f k bl pl bv (blkN (at' 0 l) k) (w1.alloc (.cells (u16s (blkN (at' 0 l) k)).toArray 126)) w1.heap.size) :=
              ⟨(HL.out.step hb1).step ((Below.refl _ _).alloc (Nat.le_refl _) _), heap_alloc_new w1 _, Nat.lt_of_lt_of_le HL.out.size hb1.size⟩
            have gi := hid (blk_info HKEY.out)
            have gh := hid (blk_hold HKEY.out)
            have go := hid (blk_one (blkN (at' 0 l) k))
            have gk := hid (key_of HKEY.out)
            have HP1 := hid (fun (i : Nat) (hi : bl[i]? = some (blkN (at' 0 l) k)) => HP.out.old hi)
            have HP2 := hid (fun hn => HP.out.new hn)
            have hpl := hid HP.out.len
            clear HP HC HL
            generalize blkN (at' 0 l) k = b at *
            by_cases hm : b ∈ bl
            · obtain ⟨i, hi⟩ := List.mem_iff_getElem?.1 hm
              obtain ⟨D, hown, hD⟩ := HA.out.lay.map
              obtain ⟨hhas, hkat⟩ := hD.yes i b hi
              have HOWN := hid hown
              have HAT := hid hkat
              have hil : Hid (i < 65536) := by
                have h1 := (List.getElem?_eq_some_iff.1 hi).1
                have h2 := (HP1.out i hi).most
                show _ < _; omega
              have HP3 := hid (HP1.out i hi)
              have HE := hid (HA.out.lay.place hlt hpl.out i)
              obtain ⟨v0, hpc⟩ := HA.out.lay.placeCell hlt
              have hpf := HA.out.lay.cells.2 (2 + k)
              have gb := hid HA.out.blk
              clear hown hkat hD hi hm HP1 HP2 HA
              go_wp2_with (first
                | (refine wpList_store_row rfl 126 (.tmp 7) (.tmp 32) rfl w1.heap.size (u16s b).toArray rfl rfl 126 z256 (heap_alloc_new w1 _) gi.out gh.out go.out ?_; rw [World.setRow_alloc_new])
                | (refine wpList_load_row rfl 126 (.tmp 7) rfl w1.heap.size rfl 126 (u16s b).toArray (0, 0) _ gb.out Try.underlying126 rfl gi.out ?_)
                | (at_lookup; refine wpList_lookup_own_ok_int _ rfl (.tmp 34) (.tmp 35) 122 rfl 126 102 .u16 Try.lawBlk Try.underlying122 Try.underlying102 (zero_u16 _) w.heap.size bl.length D rfl HOWN.out (.agg (u16s b).toArray) (key b) rfl gk.out ?_; intro c hat hwc; obtain rfl : c = (i : Int) := lit_inj (hat.symm.trans HAT.out); clear hat hwc))
              go_roundg (4352 - (k + 1))
              case measure => rw [HG.out]; omega
              case rel => exact ⟨k + 1, bl, pl ++ [i], bv, d, by omega, rfl, by go_num, HT2.out, HE.out, HP3.out⟩
            · obtain ⟨D, hown, hD⟩ := HA.out.lay.map
              have hhas := hD.no b HKEY.out hm
              have HOWN := hid hown
              have HP3 := hid (HP2.out hm)
              have hbl : bl.length ≤ 4352 := by have := HP3.out.most; simp at this; omega
              obtain ⟨ao', cap', rfl⟩ := HA.out.lay.bvSlice
              obtain ⟨c1, c2⟩ := HA.out.lay.cells
              have gb := hid HA.out.blk
              have q3 : IntKind.u16.wrap (bl.length : Int) = (bl.length : Int) := wrap_u16 _ (by omega) (by omega)
              have HM := hid hm
              have HDD := hid hD
              have hplt := hid HA.out.lay.plt
              have hW : Hid (p < (w1.alloc (.cells (u16s b).toArray 126)).heap.size ∧ w1.heap.size < (w1.alloc (.cells (u16s b).toArray 126)).heap.size ∧ w.heap.size < w1.heap.size) := ⟨HA.out.lay.row.lt, (Array.getElem?_eq_some_iff.1 HA.out.blk).1, HA.out.lt⟩
              have HO : Hid (∀ w3 : World, (w1.alloc (.cells (u16s b).toArray 126)).grownBy w3 (some w.heap.size) → w3.drew.ownsRow (w.heap.size + 1) 126 256 (.slice ao' bl.length cap') bl.length (bl.flatMap u16s)) := fun w3 h3 => (HA.out.lay.own.kept h3 (own_ne HA.out.lay) : w3.ownsRow _ _ _ _ _ _)
              have HB3 : Hid (∀ w3 : World, (w1.alloc (.cells (u16s b).toArray 126)).grownBy w3 (some w.heap.size) → w.heap.size + 1 ≤ w3.drew.heap.size) := fun w3 h3 => Nat.le_trans HA.out.lay.size h3.size
              have hpbv : Hid ((Value.slice ao' bl.length cap').ownBlock ≠ some p) := fun e => by have := HA.out.lay.ownLt e; have := HA.out.lay.plt; omega
              clear hown hD hm HP1 HP2 c2
              go_wp2_with (first
                | (refine wpList_store_row rfl 126 (.tmp 7) (.tmp 32) rfl w1.heap.size (u16s b).toArray rfl rfl 126 z256 (heap_alloc_new w1 _) gi.out gh.out go.out ?_; rw [World.setRow_alloc_new])
                | (refine wpList_load_row rfl 126 (.tmp 7) rfl w1.heap.size rfl 126 (u16s b).toArray (0, 0) _ gb.out Try.underlying126 rfl gi.out ?_)
                | (at_lookup; refine wpList_lookup_own_ok_int _ rfl (.tmp 34) (.tmp 35) 122 rfl 126 102 .u16 Try.lawBlk Try.underlying122 Try.underlying102 (zero_u16 _) w.heap.size bl.length D rfl HOWN.out (.agg (u16s b).toArray) (key b) rfl gk.out ?_; intro c hat hwc; clear hat hwc)
                | (at_mapUpdate; refine wpList_mapUpdate_own _ rfl (.tmp 47) (.tmp 48) (.tmp 49) 122 rfl 126 102 Try.lawBlk Try.underlying122 _ w.heap.size bl.length D rfl HOWN.out (by unfold maxLen; omega) (.agg (u16s b).toArray) (.int .u16 (bl.length : Int)) (key b) rfl rfl gk.out _ [] (plainElem_int Try.underlying102 (wf_u16 _ (by omega))) ?_; intro w3 hown3 hg3; obtain ⟨d1, d2⟩ := map_kept hg3 c1 hW.out hplt.out gb.out; have HG3 := hid hg3; have HO3 := hid hown3; have gb3 := hid d2; clear hown3 hg3 d2))
              refine wp_region_held_drew (S := fun _ => True) (by kernel_rfl) trivial (fun _ => ?_)
              refine wpAnyH_take (i := 0) (v := .pointer (some ⟨p, 0, none⟩)) rfl (by kernel_rfl) (by kernel_rfl) (by kernel_rfl) (fun _ _ _ h => h) (Or.inl ⟨by rfl, by (intro w _; go_simp)⟩) trivial ?_
              refine wpAnyH_take (i := 1) (v := .pointer (some ⟨p, 0, none⟩)) rfl (by kernel_rfl) (by kernel_rfl) (by kernel_rfl) (fun _ _ _ h => h) (Or.inl ⟨by rfl, by (intro w _; go_simp)⟩) trivial ?_
              refine wpAnyH_take (i := 2) (v := .pointer (some ⟨p, 0, none⟩)) rfl (by kernel_rfl) (by kernel_rfl) (by kernel_rfl) (fun _ _ _ h => h) (Or.inl ⟨by rfl, by (intro w _; go_simp)⟩) trivial ?_
              refine wpAnyH_take (i := 3) (v := .pointer (some ⟨p, 1, none⟩)) rfl (by kernel_rfl) (by kernel_rfl) (by kernel_rfl) (fun _ _ _ h => h) (Or.inl ⟨by rfl, by (intro w _; go_simp)⟩) trivial ?_
              refine wpAnyH_ready (rs := [4, 5]) (by kernel_rfl) (by simp) ?_
              refine AllReadyH.cons rfl (fun K hK => ?_) ?_
              · go_simp
                refine hK.out _ _ trivial (fun _ => ?_)
                clear hK K
                refine wpAnyH_ready (rs := [5]) (by kernel_rfl) (by simp) ?_
                refine AllReadyH.cons rfl (fun K hK => ?_) AllReadyH.nil
                rw [if_pos (by rfl)]
                refine wp_load_row 126 (.tmp 7) rfl w1.heap.size rfl 126 (u16s b).toArray (0, 0) _ gb3.out Try.underlying126 rfl gi.out ?_
                refine hK.out _ _ trivial (fun _ => ?_)
                clear hK K
                refine wpAnyH_ready (rs := [6]) (by kernel_rfl) (by simp) ?_
                refine AllReadyH.cons rfl (fun K hK => ?_) AllReadyH.nil
                rw [if_pos (by rfl)]
                refine wp_blk_slice (.tmp 55) rfl HKEY.out rfl ?_
                refine hK.out _ _ trivial (fun _ => ?_)
                clear hK K
                refine wpAnyH_ready (rs := [7]) (by kernel_rfl) (by simp) ?_
                refine AllReadyH.cons rfl (fun K hK => ?_) AllReadyH.nil
                rw [if_pos (by rfl)]
                refine wp_blk_append (.tmp 54) (.tmp 56) rfl HKEY.out rfl rfl (HO.out w3 HG3.out) (by omega) (HB3.out w3 HG3.out) ?_
                intro v' w5 ho hg5 hloc
                obtain ⟨ao5, cap5, rfl⟩ := own_slice ho
                have HN := hid (HA.out.lay.new HKEY.out HM.out HDD.out HO3.out HG3.out ho hg5 hloc)
                have e1 := new_cells d1 hg5 hpbv.out
                have e3 := new_frozen HN.out
                clear ho hg5 hloc
                refine hK.out _ _ trivial (fun _ => ?_)
                clear hK K
                refine wpAnyH_take (i := 8) (v := .pointer (some ⟨p, 0, none⟩)) rfl (by kernel_rfl) (by kernel_rfl) (by kernel_rfl) (fun _ _ _ h => h) (Or.inl ⟨by rfl, by (intro w _; go_simp)⟩) trivial ?_
                refine wpAnyH_take (i := 9) (v := .pointer (some ⟨p, 1, none⟩)) rfl (by kernel_rfl) (by kernel_rfl) (by kernel_rfl) (fun _ _ _ h => h) (Or.inl ⟨by rfl, by (intro w _; go_simp)⟩) trivial ?_
                refine wpAnyH_ready (rs := [10]) (by kernel_rfl) (by simp) ?_
                refine AllReadyH.cons rfl (fun K hK => ?_) AllReadyH.nil
                go_simp
                refine hK.out _ _ trivial (fun _ => ?_)
                clear hK K
                refine wpAnyH_done (by kernel_rfl) ?_ _
                obtain ⟨v0, hpc⟩ := HN.out.placeCell hlt
                have hpf := HN.out.cells.2 (2 + k)
                have HE := hid (HN.out.place hlt hpl.out bl.length)
                clear HN e1 e3 HA
                generalize w5.setCell ⟨p, 1, none⟩ (.slice ao5 (bl.length + 1) cap5) = W6 at *
                go_wp2_with fail
                go_roundg (4352 - (k + 1))
                case measure => rw [HG.out]; omega
                case rel => exact ⟨k + 1, bl ++ [b], pl ++ [bl.length], _, d, by omega, rfl, by go_num, HT2.out, HE.out, HP3.out⟩
              · refine AllReadyH.cons rfl (fun K hK => ?_) AllReadyH.nil
                rw [if_pos (by rfl)]
                refine wp_load_row 126 (.tmp 7) rfl w1.heap.size rfl 126 (u16s b).toArray (0, 0) _ gb3.out Try.underlying126 rfl gi.out ?_
                refine hK.out _ _ trivial (fun _ => ?_)
                clear hK K
                refine wpAnyH_ready (rs := [4, 6]) (by kernel_rfl) (by simp) ?_
                refine AllReadyH.cons rfl (fun K hK => ?_) ?_
                · go_simp
                  refine hK.out _ _ trivial (fun _ => ?_)
                  clear hK K
                  refine wpAnyH_ready (rs := [6]) (by kernel_rfl) (by simp) ?_
                  refine AllReadyH.cons rfl (fun K hK => ?_) AllReadyH.nil
                  rw [if_pos (by rfl)]
                  refine wp_blk_slice (.tmp 55) rfl HKEY.out rfl ?_
                  refine hK.out _ _ trivial (fun _ => ?_)
                  clear hK K
                  refine wpAnyH_ready (rs := [7]) (by kernel_rfl) (by simp) ?_
                  refine AllReadyH.cons rfl (fun K hK => ?_) AllReadyH.nil
                  rw [if_pos (by rfl)]
                  refine wp_blk_append (.tmp 54) (.tmp 56) rfl HKEY.out rfl rfl (HO.out w3 HG3.out) (by omega) (HB3.out w3 HG3.out) ?_
                  intro v' w5 ho hg5 hloc
                  obtain ⟨ao5, cap5, rfl⟩ := own_slice ho
                  have HN := hid (HA.out.lay.new HKEY.out HM.out HDD.out HO3.out HG3.out ho hg5 hloc)
                  have e1 := new_cells d1 hg5 hpbv.out
                  have e3 := new_frozen HN.out
                  clear ho hg5 hloc
                  refine hK.out _ _ trivial (fun _ => ?_)
                  clear hK K
                  refine wpAnyH_take (i := 8) (v := .pointer (some ⟨p, 0, none⟩)) rfl (by kernel_rfl) (by kernel_rfl) (by kernel_rfl) (fun _ _ _ h => h) (Or.inl ⟨by rfl, by (intro w _; go_simp)⟩) trivial ?_
                  refine wpAnyH_take (i := 9) (v := .pointer (some ⟨p, 1, none⟩)) rfl (by kernel_rfl) (by kernel_rfl) (by kernel_rfl) (fun _ _ _ h => h) (Or.inl ⟨by rfl, by (intro w _; go_simp)⟩) trivial ?_
                  refine wpAnyH_ready (rs := [10]) (by kernel_rfl) (by simp) ?_
                  refine AllReadyH.cons rfl (fun K hK => ?_) AllReadyH.nil
                  go_simp
                  refine hK.out _ _ trivial (fun _ => ?_)
                  clear hK K
                  refine wpAnyH_done (by kernel_rfl) ?_ _
                  obtain ⟨v0, hpc⟩ := HN.out.placeCell hlt
                  have hpf := HN.out.cells.2 (2 + k)
                  have HE := hid (HN.out.place hlt hpl.out bl.length)
                  clear HN e1 e3 HA
                  generalize w5.setCell ⟨p, 1, none⟩ (.slice ao5 (bl.length + 1) cap5) = W6 at *
                  go_wp2_with fail
                  go_roundg (4352 - (k + 1))
                  case measure => rw [HG.out]; omega
                  case rel => exact ⟨k + 1, bl ++ [b], pl ++ [bl.length], _, d, by omega, rfl, by go_num, HT2.out, HE.out, HP3.out⟩
                · refine AllReadyH.cons rfl (fun K hK => ?_) AllReadyH.nil
                  rw [if_pos (by rfl)]
                  refine wp_blk_slice (.tmp 55) rfl HKEY.out rfl ?_
                  refine hK.out _ _ trivial (fun _ => ?_)
                  clear hK K
                  have d1a := new_cell1 (o := .cells (u16s b).toArray 126) d1
                  refine wpAnyH_ready (rs := [4]) (by kernel_rfl) (by simp) ?_
                  refine AllReadyH.cons rfl (fun K hK => ?_) AllReadyH.nil
                  go_simp
                  refine hK.out _ _ trivial (fun _ => ?_)
                  clear hK K d1a
                  refine wpAnyH_ready (rs := [7]) (by kernel_rfl) (by simp) ?_
                  refine AllReadyH.cons rfl (fun K hK => ?_) AllReadyH.nil
                  rw [if_pos (by rfl)]
                  refine wp_blk_append (w := w3.drew) (.tmp 54) (.tmp 56) rfl HKEY.out rfl rfl (HO.out w3 HG3.out) (by omega) (HB3.out w3 HG3.out) ?_
                  intro v' w5 ho hg5 hloc
                  obtain ⟨ao5, cap5, rfl⟩ := own_slice ho
                  have HN := hid (HA.out.lay.new HKEY.out HM.out HDD.out HO3.out HG3.out ho hg5 hloc)
                  have e1 := new_cells d1 hg5 hpbv.out
                  have e3 := new_frozen HN.out
                  clear ho hg5 hloc
                  refine hK.out _ _ trivial (fun _ => ?_)
                  clear hK K
                  refine wpAnyH_take (i := 8) (v := .pointer (some ⟨p, 0, none⟩)) rfl (by kernel_rfl) (by kernel_rfl) (by kernel_rfl) (fun _ _ _ h => h) (Or.inl ⟨by rfl, by (intro w _; go_simp)⟩) trivial ?_
                  refine wpAnyH_take (i := 9) (v := .pointer (some ⟨p, 1, none⟩)) rfl (by kernel_rfl) (by kernel_rfl) (by kernel_rfl) (fun _ _ _ h => h) (Or.inl ⟨by rfl, by (intro w _; go_simp)⟩) trivial ?_
                  refine wpAnyH_ready (rs := [10]) (by kernel_rfl) (by simp) ?_
                  refine AllReadyH.cons rfl (fun K hK => ?_) AllReadyH.nil
                  go_simp
                  refine hK.out _ _ trivial (fun _ => ?_)
                  clear hK K
                  refine wpAnyH_done (by kernel_rfl) ?_ _
                  obtain ⟨v0, hpc⟩ := HN.out.placeCell hlt
                  have hpf := HN.out.cells.2 (2 + k)
                  have HE := hid (HN.out.place hlt hpl.out bl.length)
                  clear HN e1 e3 HA
                  generalize w5.setCell ⟨p, 1, none⟩ (.slice ao5 (bl.length + 1) cap5) = W6 at *
                  go_wp2_with fail
                  go_roundg (4352 - (k + 1))
                  case measure => rw [HG.out]; omega
                  case rel => exact ⟨k + 1, bl ++ [b], pl ++ [bl.length], _, d, by omega, rfl, by go_num, HT2.out, HE.out, HP3.out⟩
    · have e : k = 4352 := by omega
      subst e
      have hn : ¬ ((4352 : Nat) : Int) < 4352 := by omega
      clear HG HT HR
      go_wp2_with fail
      go_end0
      exact ⟨rfl, bl, pl, ⟨bv, HL.out⟩, HP.out⟩

end Go.Proofs.Ytbamhbfncddieaa.Uc
