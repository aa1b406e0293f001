import Derived.Test.YtbamhbfncddieaaStg4
namespace Go.Proofs.Ytbamhbfncddieaa.Uc
open Go.RowKit
open Go.Maps (Keyed IsMap)

theorem foldl_set : ∀ (L : List Value) (n : Nat) (Z : Array Value), ∀ i : Nat, ((L.zipIdx n).foldl (fun cs x => cs.setIfInBounds (0 + x.2) x.1) Z)[i]? = if n ≤ i ∧ i < n + L.length ∧ i < Z.size then L[i - n]? else Z[i]?
  | [], n, Z, i => by simp; intro h1 h2; omega
  | x :: L, n, Z, i => by
    rw [List.zipIdx_cons, List.foldl_cons, foldl_set L (n + 1) _ i]
    simp only [Nat.zero_add, Array.size_setIfInBounds, List.length_cons]
    by_cases h1 : n + 1 ≤ i ∧ i < n + 1 + L.length ∧ i < Z.size
    · rw [if_pos h1, if_pos (by omega)]
      have : i - n = (i - (n + 1)) + 1 := by omega
      rw [this, List.getElem?_cons_succ]
    · rw [if_neg h1, Array.getElem?_setIfInBounds]
      by_cases h2 : n = i
      · subst h2
        by_cases h3 : n < Z.size
        · simp [h3]
        · simp [h3]
      · rw [if_neg h2, if_neg (by omega)]

theorem fill_same (A Z : Array Value) (h : A.size = Z.size) : A.zipIdx.foldl (fun cs x => cs.setIfInBounds (0 + x.2) x.1) Z = A := by
  apply Array.ext_getElem?
  intro i
  rw [← Array.foldl_toList, Array.toList_zipIdx, foldl_set]
  by_cases hi : i < A.size
  · rw [if_pos (by simp; omega)]; simp
  · rw [if_neg (by simp; omega), Array.getElem?_eq_none (by omega), Array.getElem?_eq_none (by omega)]

theorem Try.info_blk3 : (Try.prog.info? 126).map (fun i => (i.zero, i.size, i.bytes)) = some (some (.agg z256), 256, 512) := by kernel_rfl

theorem run_blk_slice (w : World) {b : List Nat} (h : BlkOk b) :
    (Instr.buildSlice 101 1 #[(0, .agg (u16s b).toArray)]).run Try.prog w = .ok (.slice (some ⟨w.heap.size, 0, none⟩) 1 1) (w.alloc (.cells (u16s b).toArray 126)) := by
  obtain ⟨i0, hi, hz0, hz1, hz2⟩ := info_parts Try.info_blk3
  have hs : (u16s b).toArray.size = 256 := by simp [u16s, h.1]
  have hsz : ∀ w, (sizeOf 126).run Try.prog w = .ok 256 w := fun w => by simp [sizeOf, typeInfo, hi, hz1]
  have hz : ∀ w, (zeroValue 126).run Try.prog w = .ok (.agg z256) w := z256_zero
  have hf : Instr.fill (fun i => some (i * 256, 256)) ((Array.range (1 * 256)).map (z256[· % z256.size]!)) [(0, .agg (u16s b).toArray)] = some (u16s b).toArray := by
    unfold Instr.fill
    simp only [Value.cells, hs, Array.size_map, Array.size_range]
    rw [if_neg (by simp)]
    unfold Instr.fill
    have := fill_same (u16s b).toArray ((Array.range (1 * 256)).map (z256[· % z256.size]!)) (by rw [hs]; simp)
    simpa using this
  simp only [Instr.buildSlice, Sem.run_bind, run_underlying Try.underlying101, Result.andThen_ok, hsz]
  simp only [Nat.one_mul, Nat.reducePow, Nat.reduceGT, if_false, Nat.reduceEqDiff, Sem.run_bind, hz, Result.andThen_ok, Sem.run_pure]
  simp only [Value.cells] at hf ⊢
  rw [Nat.one_mul] at hf
  simp only [hf]
  rfl

/-- The operation: a slice of one block. -/
theorem wp_blk_slice {o : Oper} {a : Act} {w : World} {K : Act → World → Prop} {Q : Exit → Act → World → Prop} (x : Operand) (ho : o.op = .buildSlice 101 1 #[(0, x)]) {b : List Nat} (hb : BlkOk b) (hx : a.eval x = .agg (u16s b).toArray)
    (h : K (a.put o.dst (.slice (some ⟨w.heap.size, 0, none⟩) 1 1)) (w.alloc (.cells (u16s b).toArray 126))) : o.wp Try.prog a w K Q := by
  unfold Oper.wp execOp
  simp only [ho, List.map_toArray, List.map_cons, List.map_nil, hx, Sem.run_bind, run_blk_slice w hb, Result.andThen_ok]
  exact h

/-- .. and its append. -/
theorem wp_blk_append {o : Oper} {a : Act} {w : World} {K : Act → World → Prop} {Q : Exit → Act → World → Prop} (s x : Operand)
    (ho : o.op = .call { callee := .builtin .append, args := #[s, x], argTypes := #[101, 101] }) {B n : Nat} {v : Value} {xs : List Value} {b : List Nat} (hb : BlkOk b) (hs : a.eval s = v)
    (hx : a.eval x = .slice (some ⟨w.heap.size, 0, none⟩) 1 1) (hown : w.ownsRow B 126 256 v n xs) (hn : n ≤ 5000) (hB : B ≤ w.heap.size)
    (h : ∀ v' w', w'.ownsRow B 126 256 v' (n + 1) (xs ++ u16s b) → (w.alloc (.cells (u16s b).toArray 126)).grownBy w' v.ownBlock → (v'.ownBlock = v.ownBlock ∨ v'.ownBlock = some (w.heap.size + 1)) → K (a.put o.dst v') w') :
    o.wp Try.prog a (w.alloc (.cells (u16s b).toArray 126)) K Q := by
  obtain ⟨i0, hi, hz0, hz1, hz2⟩ := info_parts Try.info_blk3
  have hl : (u16s b).length = 1 * 256 := by rw [u16s_len, hb.1]
  obtain ⟨v', w', hr, h2, h3, _, h5⟩ := run_append_own_at (P := Try.prog) (w.alloc (.cells (u16s b).toArray 126)) B 101 o.type 126 i0 (.agg z256) 256 512 Try.underlying101 hi hz0 hz1 hz2 (by simp [Value.cells, z256]) (by decide) v n xs (hown.alloc _)
    ⟨w.heap.size, 0, none⟩ 1 1 (u16s b) hl (fun j u hj => by
      have e : (⟨w.heap.size, 0, none⟩ : Addr).add j = ⟨w.heap.size, j, none⟩ := by unfold Addr.add; split <;> simp_all
      rw [e, cell_of_row _ w.heap.size j _ _ _ (heap_alloc_new w _)]
      simpa using hj) (fun u hu => by
      simp only [u16s, List.mem_map] at hu
      obtain ⟨n, _, rfl⟩ := hu
      rfl) (by unfold maxLen; omega) (by omega) (by simp; omega)
  unfold Oper.wp execOp
  simp only [ho, resolve, invoke, builtin, Sem.run_bind, Sem.run_pure, Result.andThen_ok, List.map_toArray, List.map_cons, List.map_nil, hs, hx, hr]
  exact h v' w' h2 h3 (h5.imp id (fun e => by simpa using e))

/-- What lay has behind a new block, ahead of its place. -/
theorem LayW.new {w : World} {p : Nat} {f : Nat → Value} {k : Nat} {bl : List (List Nat)} {pl : List Nat} {bv v' : Value} {W w3 w5 : World} {b : List Nat} {D : DataW Unit} (h : LayW w p f k bl pl bv W) (hb : BlkOk b) (hn : b ∉ bl) (hD : MapOk D bl)
    (hown3 : w3.ownsMap Try.prog 126 (plainElem (H := Unit) Try.prog 102) w.heap.size (bl.length + 1) (D.put (key b) (.lit (.int .u16 bl.length)))) (hg3 : W.grownBy w3 (some w.heap.size))
    (ho : w5.ownsRow (w.heap.size + 1) 126 256 v' (bl.length + 1) (bl.flatMap u16s ++ u16s b)) (hg5 : (w3.drew.alloc (.cells (u16s b).toArray 126)).grownBy w5 bv.ownBlock) (hloc : v'.ownBlock = bv.ownBlock ∨ v'.ownBlock = some (w3.heap.size + 1)) :
    LayW w p f k (bl ++ [b]) pl v' (w5.setCell ⟨p, 1, none⟩ v') := by
  have hp := h.plt
  have hs3 := hg3.size
  have hsz := h.size
  have hbv : ∀ g, bv.ownBlock = some g → w.heap.size + 1 ≤ g := fun g hg => (h.ownLt hg).1
  have hv' : ∀ g, v'.ownBlock = some g → w.heap.size + 1 ≤ g := fun g hg => by
    rcases hloc with e | e
    · exact hbv g (by rw [← e]; exact hg)
    · rw [e] at hg; simp at hg; omega
  have g4' := (World.grownBy_alloc w3.drew (.cells (u16s b).toArray 126) bv.ownBlock).trans hg5
  have g4 : w3.grownBy w5 bv.ownBlock := ⟨g4'.os, g4'.tape, g4'.output, g4'.size, g4'.block⟩
  have blk5 : ∀ g, g < W.heap.size → g ≠ w.heap.size → bv.ownBlock ≠ some g → w5.heap[g]? = W.heap[g]? := fun g h1 h2 h3 =>
    (g4.block g (by omega) (fun e => h3 e.symm)).trans (hg3.block g h1 (by simp; exact h2))
  have hr5 := h.row.of_block (blk5 p h.row.lt (by omega) (fun e => by have := hbv p e; omega))
  have hm5 := hown3.kept g4 (fun e => by have := hbv _ e.symm; omega)
  refine ⟨⟨_, by have := hm5.setCell (a := ⟨p, 1, none⟩) (by simp; omega) v'; rw [List.length_append]; exact this, hD.snoc h.ok hb hn⟩, ?_, (hr5.set 1 v').congr (fun j _ => ?_), ?_, ?_, hp, fun c hc => ?_⟩
  · rw [List.flatMap_append, List.length_append]
    simp only [List.flatMap_cons, List.flatMap_nil, List.append_nil, List.length_cons, List.length_nil, Nat.zero_add]
    refine ⟨ho.1, ?_⟩
    rcases ho.2 with h1 | ⟨g, cap, cur, e, h2, h3, h4⟩
    · exact .inl h1
    · exact .inr ⟨g, cap, cur, e, h2, by rw [Below.heap_setCell _ _ _ _ (by simp; omega)]; exact h3, h4⟩
  · by_cases e0 : j = 0
    · subst e0; rfl
    · by_cases e1 : j = 1
      · subst e1; rfl
      · simp [e0, e1]
  · have c3 : Chg (· = p) w w3 := h.chg.grown hg3 (fun k e hk => by simp at e; omega)
    exact (c3.grown g4 (fun k e hk => by have := hbv k e; omega)).setCell (fun _ => rfl) v'
  · have := g4.size
    simp [World.setCell]; omega
  · simp at hc
    rcases hc with hc | rfl
    · exact h.ok c hc
    · exact hb
end Go.Proofs.Ytbamhbfncddieaa.Uc
