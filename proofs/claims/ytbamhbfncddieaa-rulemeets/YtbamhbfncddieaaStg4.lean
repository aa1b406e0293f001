import Derived.Test.YtbamhbfncddieaaStg3
namespace Go.Proofs.Ytbamhbfncddieaa.Uc
open Go.RowKit
open Go.Maps (Keyed IsMap)

theorem RowsIn.head {w : World} {v : Value} {x : SRow Nat} {l : List (SRow Nat)} (h : RowsIn w v (x :: l)) : ∃ g off cap, v = .slice (some ⟨g, off, none⟩) (l.length + 1) cap ∧ w.cell? ⟨g, off + 1, none⟩ = some (.int .i32 x.t) ∧
    (cap = 1 → RowsIn w (.slice (some ⟨g, off, none⟩) l.length 0) l) ∧ (¬ cap = 1 → RowsIn w (.slice (some ⟨g, off + 3, none⟩) l.length (cap - 1)) l) := by
  rcases h with ⟨h, _⟩ | ⟨g, off, cap, rfl, hcap, hlt, hc⟩
  · simp at h
  · simp only [List.length_cons] at hcap
    refine ⟨g, off, cap, by simp, by have := (hc 0 (by simp)).2.1; simp only [Nat.zero_mul, Nat.add_zero] at this; exact this, fun e => .inl ⟨List.eq_nil_of_length_eq_zero (by omega), _, _, by rw [show l.length = 0 by omega]⟩, fun e => .inr ⟨g, off + 3, cap - 1, rfl, by omega, hlt, fun j hj => ?_⟩⟩
    have := hc (j + 1) (by simp; omega)
    have e1 : off + 3 + j * 3 = off + (j + 1) * 3 := by omega
    rw [e1]; simpa using this

def lenOf : Value → Nat | .slice _ n _ => n | _ => 0

/-- The rows that are left at a block's begin. -/
structure Left (w : World) (p : Nat) (l : List (SRow Nat)) (b : Int) (rv : Value) (d : Nat) : Prop where
  rows : RowsIn w rv (l.drop d)
  own : rv.ownBlock ≠ some p
  gone : ∀ x ∈ l.take d, x.t < b

theorem Left.mono {w : World} {p : Nat} {l : List (SRow Nat)} {b b' : Int} {rv : Value} {d : Nat} (h : Left w p l b rv d) (hb : b ≤ b') : Left w p l b' rv d :=
  ⟨h.rows, h.own, fun x hx => by have := h.gone x hx; omega⟩

theorem take_more {α : Type} {l r : List α} {d : Nat} {x : α} (h : l.drop d = x :: r) : l.take (d + 1) = l.take d ++ [x] ∧ l.drop (d + 1) = r := by
  have hlt : d < l.length := by
    rcases Nat.lt_or_ge d l.length with h1 | h1
    · exact h1
    · rw [List.drop_eq_nil_of_le h1] at h; simp at h
  rw [List.drop_eq_getElem_cons hlt] at h
  obtain ⟨h1, h2⟩ := List.cons.inj h
  exact ⟨by rw [take_succ' l d hlt, h1], h2⟩

theorem Left.next {w : World} {p : Nat} {l r : List (SRow Nat)} {b : Int} {rv rv' : Value} {d : Nat} {x : SRow Nat} (h : Left w p l b rv d) (hd : l.drop d = x :: r) (hx : x.t < b) (hr : RowsIn w rv' r) (ho : rv'.ownBlock ≠ some p) : Left w p l b rv' (d + 1) := by
  obtain ⟨h1, h2⟩ := take_more hd
  refine ⟨by rw [h2]; exact hr, ho, fun y hy => ?_⟩
  rw [h1] at hy
  simp at hy
  rcases hy with hy | rfl
  · exact h.gone y hy
  · exact hx

theorem rising_drop {α : Type} : ∀ (d : Nat) (l : List (SRow α)) (a : Int), Rising a l → ∃ a', Rising a' (l.drop d)
  | 0, _, a, h => ⟨a, h⟩
  | _ + 1, [], a, h => ⟨a, h⟩
  | d + 1, x :: l, _, h => rising_drop d l x.t h.2.2.2

theorem at_left (l : List (SRow Nat)) (d : Nat) (b r : Int) (h : ∀ x ∈ l.take d, x.t < b) (hr : b ≤ r) : at' 0 (l.drop d) r = at' 0 l r := by
  conv => rhs; rw [← List.take_append_drop d l]
  rw [at_append, at_drop_none 0 (l.take d)]
  intro x hx
  have := h x hx
  omega

theorem at_lt (l : List (SRow Nat)) (hf : Fine l) (r : Int) : at' 0 l r < 65536 := by
  have : ∀ (l : List (SRow Nat)) (z : Nat), z < 65536 → (∀ x ∈ l, x.v < 65536) → at' z l r < 65536 := by
    intro l
    induction l with
    | nil => intro z hz _; exact hz
    | cons x l ih =>
      intro z hz h
      simp only [at', List.foldl_cons]
      apply ih
      · split
        · exact h x (by simp)
        · exact hz
      · exact fun y hy => h y (by simp [hy])
  exact this l 0 (by omega) (fun x hx => (hf x hx).2.2.2)

/-- What lay has in memory behind k blocks. -/
structure LayW (w : World) (p : Nat) (f : Nat → Value) (k : Nat) (bl : List (List Nat)) (pl : List Nat) (bv : Value) (wr : World) : Prop where
  map : ∃ D, wr.ownsMap Try.prog 126 (plainElem (H := Unit) Try.prog 102) w.heap.size bl.length D ∧ MapOk D bl
  own : wr.ownsRow (w.heap.size + 1) 126 256 bv bl.length (bl.flatMap u16s)
  row : wr.rowIs p 105 4354 (fun j => if j = 0 then f 0 else if j = 1 then bv else if j - 2 < k then .int .u16 (pl.getD (j - 2) 0 : Nat) else f j)
  chg : Chg (· = p) w wr
  size : w.heap.size < wr.heap.size
  plt : p < w.heap.size
  ok : ∀ b ∈ bl, BlkOk b

section
variable {w : World} {p : Nat} {f : Nat → Value} {k : Nat} {bl : List (List Nat)} {pl : List Nat} {bv : Value} {wr w' : World}

theorem LayW.step (h : LayW w p f k bl pl bv wr) (hb : Below wr.heap.size wr w') : LayW w p f k bl pl bv w' := by
  obtain ⟨D, hm, hd⟩ := h.map
  have hg : wr.grownBy w' none := ⟨hb.os, hb.tape, hb.output, hb.size, fun k hk _ => hb.block k hk⟩
  exact ⟨⟨D, hm.kept hg (by simp), hd⟩, h.own.kept hg (by cases h2 : bv.ownBlock <;> simp), h.row.of_block (hb.block p h.row.lt), h.chg.step hb, Nat.lt_of_lt_of_le h.size hb.size, h.plt, h.ok⟩

theorem LayW.rows (h : LayW w p f k bl pl bv wr) {v : Value} {l : List (SRow Nat)} (hr : RowsIn w v l) (hv : v.ownBlock ≠ some p) : RowsIn wr v l :=
  hr.step (fun k hk e => h.chg.block k hk (fun e2 => hv (by rw [e, e2])))

theorem LayW.ownLt (h : LayW w p f k bl pl bv wr) {g : Nat} (hg : bv.ownBlock = some g) : w.heap.size + 1 ≤ g ∧ g < wr.heap.size := h.own.lt g hg

theorem LayW.place (h : LayW w p f k bl pl bv wr) (hk : k < 4352) (hl : pl.length = k) (i : Nat) : LayW w p f (k + 1) bl (pl ++ [i]) bv (wr.setCell ⟨p, 2 + k, none⟩ (.int .u16 (i : Int))) := by
  obtain ⟨D, hm, hd⟩ := h.map
  have hp := h.plt
  refine ⟨⟨D, hm.setCell (by simp; omega) _, hd⟩, ?_, (h.row.set (2 + k) _).congr (fun j hj => ?_), h.chg.setCell (fun _ => rfl) _, by have := h.size; simpa [World.setCell] using this, hp, h.ok⟩
  · refine ⟨h.own.1, ?_⟩
    rcases h.own.2 with h1 | ⟨g, cap, cur, e, h2, h3, h4⟩
    · exact .inl h1
    · exact .inr ⟨g, cap, cur, e, h2, by rw [Below.heap_setCell _ _ _ _ (by simp; omega)]; exact h3, h4⟩
  · by_cases e : j = 2 + k
    · subst e
      rw [if_pos rfl, if_neg (by omega), if_neg (by omega), if_pos (by omega)]
      have e2 : 2 + k - 2 = pl.length := by omega
      rw [e2]; simp
    · rw [if_neg e]
      by_cases e0 : j = 0
      · simp [e0]
      · by_cases e1 : j = 1
        · simp [e1]
        · rw [if_neg e0, if_neg e1, if_neg e0, if_neg e1]
          by_cases e2 : j - 2 < k
          · rw [if_pos e2, if_pos (by omega)]
            simp [List.getD_eq_getElem?_getD, List.getElem?_append_left (show j - 2 < pl.length by omega)]
          · rw [if_neg e2, if_neg (by omega)]

theorem lay_cut {l : List (SRow Nat)} {rv : Value} {d : Nat} (h : LayW w p f k bl pl bv wr) (ht : Left w p l (256 * (k : Int)) rv d) (a : Int) (hr : Rising a l) (hf : Fine l) (hl : l.length ≤ 5000) (hk : k < 4352) :
    Calls Try.prog 76 #[rv, .int .i32 ((k : Int) * 256)] wr fun e w' => e = .returned (.agg (u16s (blkN (at' 0 l) k)).toArray) ∧ Below wr.heap.size wr w' := by
  obtain ⟨a', hr'⟩ := rising_drop d l a hr
  refine (cut_any (h.rows ht.rows ht.own) a' hr' (fun x hx => hf x (List.mem_of_mem_drop hx)) (by rw [List.length_drop]; omega) ((k : Int) * 256) (by omega) (by omega)).mono ?_
  rintro e w' ⟨c, rfl, hs, hc, hb⟩
  refine ⟨?_, hb⟩
  rw [← blk_cells (i := k) hs (fun j hj => ?_)]
  rw [hc j hj]
  unfold blkF
  rw [at_left l d _ _ ht.gone (by omega), Int.mul_comm]
end

end Go.Proofs.Ytbamhbfncddieaa.Uc
