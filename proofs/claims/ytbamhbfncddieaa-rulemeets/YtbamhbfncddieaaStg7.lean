import Derived.Test.YtbamhbfncddieaaStg6
namespace Go.Proofs.Ytbamhbfncddieaa.Uc
open Go.RowKit

/-- Rows with their values' numbers. -/
structure Numd (other : Tr) (l : List (SRow Tr)) (vals : List Tr) (nr : List (SRow Nat)) : Prop where
  len : nr.length = l.length
  same : ∀ (j : Nat) (x : SRow Tr) (y : SRow Nat), l[j]? = some x → nr[j]? = some y → y.f = x.f ∧ y.t = x.t ∧ vals[y.v]? = some x.v
  nodup : vals.Nodup
  head : vals[0]? = some other

def rowCells (x : SRow Nat) : List Value := [.int .i32 x.f, .int .i32 x.t, .int .u16 x.v]

theorem rowCells_len (l : List (SRow Nat)) : (l.flatMap rowCells).length = l.length * 3 := by
  induction l with
  | nil => rfl
  | cons x l ih => simp only [List.flatMap_cons, List.length_append, ih, List.length_cons, rowCells, List.length_nil]; omega

theorem rowCells_at : ∀ (l : List (SRow Nat)) (j : Nat) (h : j < l.length), (l.flatMap rowCells)[j * 3]? = some (.int .i32 l[j].f) ∧ (l.flatMap rowCells)[j * 3 + 1]? = some (.int .i32 l[j].t) ∧ (l.flatMap rowCells)[j * 3 + 2]? = some (.int .u16 l[j].v)
  | [], _, h => by simp at h
  | x :: l, 0, _ => by simp [rowCells]
  | x :: l, j + 1, h => by
    have := rowCells_at l j (by simpa using h)
    have e : (j + 1) * 3 = j * 3 + 1 + 1 + 1 := by omega
    have e1 : (j + 1) * 3 + 1 = j * 3 + 1 + 1 + 1 + 1 := by omega
    have e2 : (j + 1) * 3 + 2 = j * 3 + 2 + 1 + 1 + 1 := by omega
    rw [e1, e2, e]
    simpa [List.flatMap_cons, rowCells] using this

/-- An owned slice of numbered rows is one that cut reads. -/
theorem rows_of_own {w : World} {B : Nat} {v : Value} {l : List (SRow Nat)} (h : w.ownsRow B 124 3 v l.length (l.flatMap rowCells)) : RowsIn w v l := by
  rcases h.2 with ⟨h1, h2⟩ | ⟨g, cap, cur, rfl, h2, h3, h4, h5, h6, h7⟩
  · exact .inl ⟨List.eq_nil_of_length_eq_zero h2, none, 0, by rw [h1]⟩
  · refine .inr ⟨g, 0, cap, rfl, h4, (Array.getElem?_eq_some_iff.1 h3).1, fun j hj => ?_⟩
    obtain ⟨e0, e1, e2⟩ := rowCells_at l j hj
    rw [Nat.zero_add, h.cellAt (j * 3) (by omega), h.cellAt (j * 3 + 1) (by omega), h.cellAt (j * 3 + 2) (by omega)]
    exact ⟨e0, e1, e2⟩

theorem Try.info_row : (Try.prog.info? 124).map (fun i => (i.zero, i.size, i.bytes)) = some (some (.agg #[.int .i32 0, .int .i32 0, .int .u16 0]), 3, 12) := by kernel_rfl

/-- What number has behind k rows. -/
structure NumW (w : World) (p : Nat) (f : Nat → Value) (other : Tr) (l : List (SRow Tr)) (k m : Nat) (vals : List Tr) (nr : List (SRow Nat)) (vv ov : Value) (wr : World) : Prop where
  tab : Vals wr w.heap.size p (fun j => if j = 0 then vv else f j) vals
  own : wr.ownsRow w.heap.size 124 3 ov nr.length (nr.flatMap rowCells)
  apart : vv.ownBlock = none ∨ vv.ownBlock ≠ ov.ownBlock
  numd : Numd other (l.take k) vals nr
  chg : Chg (· = p) w wr
  plt : p < w.heap.size
  most : vals.length ≤ m

theorem NumW.step {w : World} {p : Nat} {f : Nat → Value} {other : Tr} {l : List (SRow Tr)} {k m : Nat} {vals : List Tr} {nr : List (SRow Nat)} {vv ov : Value} {wr w' : World} (h : NumW w p f other l k m vals nr vv ov wr) (hb : Below wr.heap.size wr w') : NumW w p f other l k m vals nr vv ov w' :=
  ⟨h.tab.step hb, h.own.kept (row := none) ⟨hb.os, hb.tape, hb.output, hb.size, fun k hk _ => hb.block k hk⟩ (by cases ov.ownBlock <;> simp), h.apart, h.numd, h.chg.step hb, h.plt, h.most⟩

/-- .. and behind the value of row k. -/
theorem NumW.kept {w : World} {p : Nat} {f : Nat → Value} {other : Tr} {l : List (SRow Tr)} {k m : Nat} {vals : List Tr} {nr : List (SRow Nat)} {vv ov : Value} {wr w1 : World} {x : Tr} {e : Ending} (h : NumW w p f other l k m vals nr vv ov wr) (hk : Kept wr w.heap.size p (fun j => if j = 0 then vv else f j) vals x e w1) :
    ∃ (n : Nat) (vv' : Value) (vals' : List Tr), e = .returned (.int .u16 n) ∧ vals'[n]? = some x ∧ NumW w p f other l k (m + 1) vals' nr vv' ov w1 ∧ (∀ lb, lb < wr.heap.size → lb ≠ p → vv.ownBlock ≠ some lb → w1.heap[lb]? = wr.heap[lb]?) ∧ wr.heap.size ≤ w1.heap.size := by
  obtain ⟨n, v', l', rfl, hn, hl', hv', hc, hb⟩ := hk
  have e1 : (fun j => if j = 0 then v' else if j = 0 then vv else f j) = (fun j => if j = 0 then v' else f j) := by funext j; by_cases e : j = 0 <;> simp [e]
  have hv'' : Vals w1 w.heap.size p (fun j => if j = 0 then v' else f j) l' := by
    have h2 := hv'
    simp only at h2
    rw [e1] at h2; exact h2
  have hvv : ∀ g, vv.ownBlock = some g → w.heap.size ≤ g := fun g hg => (h.tab.own.lt g hg).1
  simp only [if_true] at hc hb
  have hap : v'.ownBlock = none ∨ v'.ownBlock ≠ ov.ownBlock := by
    rcases hb with e | ⟨g, e, hg⟩
    · rw [e]; exact h.apart
    · refine .inr (fun e2 => ?_)
      have := (h.own.lt g (by rw [← e2]; exact e)).2
      omega
  refine ⟨n, v', l', rfl, hn, ⟨hv'', ?_, hap, ?_, ?_, h.plt, ?_⟩, ?_, hc.size⟩
  · refine ⟨h.own.1, ?_⟩
    rcases h.own.2 with h1 | ⟨g, cap, cur, e, h2, h3, h4⟩
    · exact .inl h1
    · refine .inr ⟨g, cap, cur, e, h2, ?_, h4⟩
      rw [hc.block g (Array.getElem?_eq_some_iff.1 h3).1 ?_]; exact h3
      rintro (e2 | e2)
      · have := h.plt; omega
      · rcases h.apart with e3 | e3
        · rw [e3] at e2; simp at e2
        · exact e3 (by rw [e2, e]; rfl)
  · refine ⟨h.numd.len, fun j x y hx hy => ?_, ?_, ?_⟩
    · obtain ⟨q1, q2, q3⟩ := h.numd.same j x y hx hy
      refine ⟨q1, q2, ?_⟩
      rcases hl' with ⟨rfl, _⟩ | ⟨rfl, _⟩
      · exact q3
      · rw [List.getElem?_append_left (List.getElem?_eq_some_iff.1 q3).1]; exact q3
    · rcases hl' with ⟨rfl, _⟩ | ⟨rfl, hx⟩
      · exact h.numd.nodup
      · rw [List.nodup_append]
        refine ⟨h.numd.nodup, by simp, fun a ha b hb e => ?_⟩
        simp at hb; subst hb; subst e; exact hx ha
    · rcases hl' with ⟨rfl, _⟩ | ⟨rfl, hx⟩
      · exact h.numd.head
      · rw [List.getElem?_append_left (List.getElem?_eq_some_iff.1 h.numd.head).1]; exact h.numd.head
  · exact h.chg.andThen hc (fun i hi e => by
      rcases e with e | e
      · exact e
      · have := hvv i e; omega)
  · have := h.most
    rcases hl' with ⟨rfl, _⟩ | ⟨rfl, _⟩
    · omega
    · simp; omega
  · exact fun lb h1 h2 h3 => hc.block lb h1 (by rintro (e | e); exact h2 e; exact h3 e)

/-- .. and behind row k. -/
theorem NumW.next {w : World} {p : Nat} {f : Nat → Value} {other : Tr} {l : List (SRow Tr)} {k m : Nat} {vals : List Tr} {nr : List (SRow Nat)} {vv ov ov' : Value} {w1 w2 : World} {x : SRow Tr} {n : Nat} (h : NumW w p f other l k m vals nr vv ov w1) (hk : k < l.length) (hx : l[k]? = some x) (hn : vals[n]? = some x.v)
    (ho : w2.ownsRow w.heap.size 124 3 ov' (nr.length + 1) (nr.flatMap rowCells ++ rowCells ⟨x.f, x.t, n⟩)) (hg : (w1.alloc (.cells #[.int .i32 x.f, .int .i32 x.t, .int .u16 (n : Int)] 124)).grownBy w2 ov.ownBlock) (hloc : ov'.ownBlock = ov.ownBlock ∨ ov'.ownBlock = some (w1.heap.size + 1)) :
    NumW w p f other l (k + 1) m vals (nr ++ [⟨x.f, x.t, n⟩]) vv ov' w2 := by
  have hg' : w1.grownBy w2 ov.ownBlock := (World.grownBy_alloc w1 _ _).trans hg
  have hov : ∀ g, ov.ownBlock = some g → w.heap.size ≤ g := fun g hg => (h.own.lt g hg).1
  have hp := h.plt
  have hvlt := h.tab.own.lt
  simp only [if_true] at hvlt
  refine ⟨⟨h.tab.row.of_block (hg'.block p h.tab.row.lt (fun e => by have := hov p e.symm; omega)), h.tab.own.step (fun g hg => ?_), h.tab.apart⟩, ?_, ?_, ?_, ?_, hp, h.most⟩
  · simp only [if_true] at hg
    refine hg'.block g (hvlt g hg).2 (fun e => ?_)
    rcases h.apart with e2 | e2
    · rw [e2] at hg; simp at hg
    · exact e2 (by rw [hg, e])
  · rw [List.length_append, List.flatMap_append]
    simpa using ho
  · rcases hloc with e | e
    · rw [e]; exact h.apart
    · cases e2 : vv.ownBlock with
      | none => exact .inl rfl
      | some g => exact .inr (fun e3 => by rw [e] at e3; simp at e3; have := (hvlt g e2).2; omega)
  · refine ⟨?_, fun j y z hy hz => ?_, h.numd.nodup, h.numd.head⟩
    · have := h.numd.len
      simp only [List.length_append, List.length_take, List.length_cons, List.length_nil] at this ⊢; omega
    · have hlen := h.numd.len
      have hlt : (l.take k).length = k := by rw [List.length_take]; omega
      rw [take_succ' l k hk] at hy
      by_cases e : j < k
      · rw [List.getElem?_append_left (by omega)] at hy hz
        exact h.numd.same j y z hy hz
      · have : j = k := by have := (List.getElem?_eq_some_iff.1 hz).1; simp at this; omega
        subst this
        rw [List.getElem?_append_right (by omega), hlt] at hy
        rw [List.getElem?_append_right (by omega), hlen, hlt] at hz
        simp at hy hz
        have e2 : l[j] = x := by
          rw [List.getElem?_eq_getElem hk] at hx; exact Option.some.inj hx
        subst hz; subst hy; rw [e2]
        exact ⟨rfl, rfl, hn⟩
  · exact h.chg.grown hg' (fun g e hg => by have := hov g e; omega)
end Go.Proofs.Ytbamhbfncddieaa.Uc
