import Derived.Test.YtpegpagdhaijjaaOrd19
namespace Go.Proofs.Ytpegpagdhaijjaa
namespace Od
open Go.RowKit

theorem Try.info_p2 : (Try.prog.info? 36).map (fun i => (i.zero, i.size, i.bytes)) = some (some (.agg #[.int .i64 0, .int .i64 0]), 2, 16) := by kernel_rfl
def p2 (x : Nat × Nat) : List Value := [.int .i64 (x.1 : Int), .int .i64 (x.2 : Int)]
theorem p2_len (l : List (Nat × Nat)) : (l.flatMap p2).length = l.length * 2 := by
  induction l with
  | nil => rfl
  | cons x l ih => simp only [List.flatMap_cons, List.length_append, ih, List.length_cons, p2, List.length_nil]; omega
theorem p2_at : ∀ (l : List (Nat × Nat)) (j i : Nat) (h : j < l.length), i < 2 → (l.flatMap p2)[j * 2 + i]? = (p2 l[j])[i]?
  | [], _, _, h, _ => by simp at h
  | x :: l, 0, i, _, hi => by
    simp only [List.flatMap_cons, Nat.zero_mul, Nat.zero_add, List.getElem_cons_zero]
    rw [List.getElem?_append_left (by simp [p2]; omega)]
  | x :: l, j + 1, i, h, hi => by
    have := p2_at l j i (by simpa using h) hi
    rw [List.flatMap_cons, List.getElem?_append_right (by simp [p2]; omega)]
    rw [show (j + 1) * 2 + i - (p2 x).length = j * 2 + i by simp [p2]; omega, this]
    rfl

/-- Pairs of places, as they are read. -/
structure PsP (w : World) (ao : Option Addr) (L : List (Nat × Nat)) : Prop where
  at_ : ∀ j (h : j < L.length), ∃ g, ao = some ⟨g, 0, none⟩ ∧ g < w.heap.size ∧ w.cell? ⟨g, j * 2, none⟩ = some (.int .i64 (L[j].1 : Int)) ∧ w.cell? ⟨g, j * 2 + 1, none⟩ = some (.int .i64 (L[j].2 : Int))
def Ps (w : World) (v : Value) (L : List (Nat × Nat)) : Prop := ∃ ao cap, v = .slice ao L.length cap ∧ PsP w ao L
theorem PsP.step {w w' : World} {ao : Option Addr} {L : List (Nat × Nat)} (h : PsP w ao L) (hb : Below w.heap.size w w') : PsP w' ao L := ⟨fun j hj => by
  obtain ⟨g, e, hg, h1, h2⟩ := h.at_ j hj
  exact ⟨g, e, Nat.lt_of_lt_of_le hg hb.size, (hb.cell (p := ⟨g, j * 2, none⟩) hg).trans h1, (hb.cell (p := ⟨g, j * 2 + 1, none⟩) hg).trans h2⟩⟩
theorem Ps.step {w w' : World} {v : Value} {L : List (Nat × Nat)} (h : Ps w v L) (hb : Below w.heap.size w w') : Ps w' v L := by
  obtain ⟨ao, cap, e, h⟩ := h
  exact ⟨ao, cap, e, h.step hb⟩
theorem own_ps {w : World} {B : Nat} {v : Value} {L : List (Nat × Nat)} (h : w.ownsRow B 36 2 v L.length (L.flatMap p2)) : Ps w v L := by
  rcases h.2 with ⟨h1, h2⟩ | ⟨g, cap, cur, rfl, h2, h3, h4, h5, h6, h7⟩
  · exact ⟨none, 0, by rw [h1, h2], ⟨fun j hj => by omega⟩⟩
  · refine ⟨_, cap, rfl, ⟨fun j hj => ⟨g, rfl, (Array.getElem?_eq_some_iff.1 h3).1, ?_, ?_⟩⟩⟩
    · have a1 := p2_at L j 0 hj (by omega)
      rw [h.cellAt (j * 2) (by omega), ← Nat.add_zero (j * 2), a1]; rfl
    · have a1 := p2_at L j 1 hj (by omega)
      rw [h.cellAt (j * 2 + 1) (by omega), a1]; rfl

/-- What Runs keeps: what has been told. -/
structure RuI (w : World) (b : Nat) (zs : List Int) (ao : Option Addr) (cap o5 pl pb N : Nat) (pre : List (Nat × Nat)) (W : World) : Prop where
  bel : Below w.heap.size w W
  bl : Bx W pl (.slice ao zs.length cap) 22
  bb : Bx W pb (.pointer (some ⟨b, 0, none⟩)) 23
  fit : pre.length ≤ endOf pre ∧ endOf pre ≤ zs.length
  big : N ≤ W.heap.size
  row : ∃ ao' cap', Bx W o5 (.slice ao' pre.length cap') 33 ∧ W.ownsRow N 36 2 (.slice ao' pre.length cap') pre.length (pre.flatMap p2)
theorem own_kc {N' N n size : Nat} {A B : World} {e : TypeId} {v : Value} {xs : List Value} (hk : Kc N' A B) (h : A.ownsRow N e size v n xs) : B.ownsRow N e size v n xs :=
  ⟨h.1, h.2.imp id fun ⟨g, cap, cur, h1, h2, h3, h4⟩ => ⟨g, cap, cur, h1, h2, hk.same g _ h3 (.inr rfl), h4⟩⟩
theorem RuI.keep {w : World} {b : Nat} {zs : List Int} {ao : Option Addr} {cap o5 pl pb N N' : Nat} {pre : List (Nat × Nat)} {A B : World} (h : RuI w b zs ao cap o5 pl pb N pre A) (hk : Kc N' A B) (hN : w.heap.size ≤ N') : RuI w b zs ao cap o5 pl pb N pre B := by
  obtain ⟨ao', cap', h1, h2⟩ := h.row
  exact ⟨hk.below h.bel hN (Nat.le_refl _), hk.bx h.bl, hk.bx h.bb, h.fit, Nat.le_trans h.big hk.size, ao', cap', hk.bx h1, own_kc hk h2⟩
theorem RuI.ne {w : World} {b : Nat} {zs : List Int} {ao : Option Addr} {cap o5 pl pb N : Nat} {pre : List (Nat × Nat)} {A : World} (hB : Bk w b) (hS : SlP .i32 w ao cap zs) (h : RuI w b zs ao cap o5 pl pb N pre A) : NeR b ao cap pl pb zs pre A :=
  ⟨hB.step h.bel, h.bl, h.bb, fun i hi _ => by
    obtain ⟨g, off, e, hg, hc⟩ := hS.at_ i hi
    exact ⟨g, off, e, (h.bel.cell (p := ⟨g, off + i, none⟩) hg).trans hc⟩⟩
/-- Behind the append, and the store of what it told. -/
theorem RuI.put {w : World} {b : Nat} {zs : List Int} {ao : Option Addr} {cap o5 pl pb N : Nat} {pre : List (Nat × Nat)} {A : World} (h : RuI w b zs ao cap o5 pl pb N pre A) {f t : Nat} (hx : NextR clsP zs pre (f, t)) (ho : w.heap.size ≤ o5 ∧ o5 < N ∧ pl < N ∧ pb < N ∧ w.heap.size ≤ N ∧ o5 ≠ pl ∧ o5 ≠ pb)
    {u v' : Value} {w' : World} (hu : A.ownsRow N 36 2 u pre.length (pre.flatMap p2)) (h1 : w'.ownsRow N 36 2 v' (pre.length + 1) (pre.flatMap p2 ++ p2 (f, t))) (h2 : (A.alloc (.cells (p2 (f, t)).toArray 36)).grownBy w' u.ownBlock) :
    ∃ ao' cap', v' = .slice ao' (pre.length + 1) cap' ∧ w'.cell? ⟨o5, 0, none⟩ = A.cell? ⟨o5, 0, none⟩ ∧ w'.frozen? ⟨o5, 0, none⟩ = false ∧ KeepsFrom N A (w'.setCell ⟨o5, 0, none⟩ v') ∧ RuI w b zs ao cap o5 pl pb N (pre ++ [(f, t)]) (w'.setCell ⟨o5, 0, none⟩ v') := by
  obtain ⟨ao', cap', rfl⟩ := own_slice h1
  obtain ⟨_, _, hbx, _⟩ := h.row
  have hbA : Below A.heap.size A (A.alloc (.cells (p2 (f, t)).toArray 36)) := (Below.refl _ _).alloc (Nat.le_refl _) _
  have hrow : ∀ k, u.ownBlock = some k → N ≤ k ∧ k < A.heap.size := fun k e => hu.lt k e
  have hblk : ∀ k, k < A.heap.size → u.ownBlock ≠ some k → w'.heap[k]? = A.heap[k]? := fun k hk hne => (h2.block k (Nat.lt_of_lt_of_le hk hbA.size) (fun e => hne e.symm)).trans (hbA.block k hk)
  have hlow : ∀ k, k < N → w'.heap[k]? = A.heap[k]? := fun k hk => hblk k (Nat.lt_of_lt_of_le hk h.big) (fun e => by have := (hrow k e).1; omega)
  have hs : A.heap.size ≤ w'.heap.size := Nat.le_trans hbA.size h2.size
  have hbx' : ∀ {o v t}, o < N → Bx A o v t → Bx w' o v t := fun ho hb => (hlow _ ho).trans hb
  have e1 : pre.flatMap p2 ++ p2 (f, t) = (pre ++ [(f, t)]).flatMap p2 := by simp
  have hoth : ∀ k, k ≠ o5 → (w'.setCell ⟨o5, 0, none⟩ (.slice ao' (pre.length + 1) cap')).heap[k]? = w'.heap[k]? := fun k hk => Below.heap_setCell _ _ _ _ hk
  have hx1 := hx.1
  have hx2 := hx.2.1
  have hx3 := hx.2.2.1
  simp only at hx1 hx2 hx3
  have hf := h.fit
  refine ⟨ao', cap', rfl, World.cell?_of_block (a := ⟨o5, 0, none⟩) (hlow o5 ho.2.1), (hbx' ho.2.1 hbx).frozen, ⟨by simpa [World.setCell] using hs, fun k o hk hko hoc => ?_⟩, ?_, ?_, ?_, ?_, ?_, ao', cap', ?_, ?_⟩
  · have hkl : k < A.heap.size := (Array.getElem?_eq_some_iff.1 hko).1
    rw [hoth k (by omega)]
    refine (hblk k hkl (fun e => ?_)).trans hko
    rcases hu.2 with ⟨hn, _⟩ | ⟨g, c0, cur, hv, _, hg, _⟩
    · rw [hn] at e; simp [Value.ownBlock] at e
    · rw [hv] at e; simp [Value.ownBlock] at e
      subst e
      rw [hg] at hko
      cases hko
      cases hoc
  · refine ⟨?_, ?_, ?_, ?_, fun k hk => ?_⟩
    · exact (h2.os.trans hbA.os).trans h.bel.os
    · exact (h2.tape.trans hbA.tape).trans h.bel.tape
    · exact (h2.output.trans hbA.output).trans h.bel.output
    · have := h.bel.size
      simpa [World.setCell] using Nat.le_trans this hs
    · rw [hoth k (by omega), hlow k (by omega), h.bel.block k hk]
  · exact (hoth pl (Ne.symm ho.2.2.2.2.2.1)).trans (hbx' ho.2.2.1 h.bl)
  · exact (hoth pb (Ne.symm ho.2.2.2.2.2.2)).trans (hbx' ho.2.2.2.1 h.bb)
  · rw [endOf_snoc, List.length_append]
    show pre.length + 1 ≤ t ∧ t ≤ zs.length
    omega
  · have := h.big
    simpa [World.setCell] using Nat.le_trans this hs
  · rw [List.length_append]
    exact (hbx' ho.2.1 hbx).set _
  · rw [List.length_append, ← e1]
    exact ⟨h1.1, h1.2.imp id fun ⟨g, cp, cur, a1, a2, a3, a4⟩ => ⟨g, cp, cur, a1, a2, (hoth g (by omega)).trans a3, a4⟩⟩
end Od
end Go.Proofs.Ytpegpagdhaijjaa
