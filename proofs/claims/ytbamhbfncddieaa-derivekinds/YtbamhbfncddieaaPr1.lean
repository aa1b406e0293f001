import Derived.Test.YtbamhbfncddieaaBase
import Derived.Below
import Derived.OwnWalk
import Derived.Lib.OthersKept
import Derived.Maps.AppendAt
import Derived.Deep.AppendLies
import Derived.Deep.LoopGhost
import Derived.Maps.OwnSet
import Derived.Deep.OwnRows
import Derived.DeepKeys4
import Derived.Laws.OwnMore
import Derived.Laws.Pointers
import Derived.Laws.StructEq
import Derived.BigQuiet
import Derived.Deep.QuietTactic
import Derived.Deep.RegionHeld3
import Derived.ChangeKeysEq
namespace Go.Proofs.Ytbamhbfncddieaa.Pr
open Go.RowKit Go.Lib

theorem hid {p : Prop} (h : p) : Hid p := h

theorem below_of_grown {w w' : World} {row : Option Nat} (hg : w.grownBy w' row) (B : Nat) (hB : B ≤ w.heap.size) (hr : ∀ k, row = some k → B ≤ k) : Below B w w' :=
  ⟨hg.os, hg.tape, hg.output, hg.size, fun k hk => hg.block k (by omega) (fun e => by have := hr k e.symm; omega)⟩
theorem own_slice {w : World} {B n size : Nat} {e : TypeId} {v : Value} {xs : List Value} (h : w.ownsRow B e size v n xs) : ∃ ao cap, v = .slice ao n cap := by
  rcases h.2 with ⟨h1, h2⟩ | ⟨g, cap, cur, h1, _⟩
  · exact ⟨none, 0, by rw [h1, h2]⟩
  · exact ⟨_, cap, h1⟩
theorem own_base {w : World} {B B' n size : Nat} {e : TypeId} {v : Value} {xs : List Value} (h : w.ownsRow B e size v n xs) (hB : B' ≤ B) : w.ownsRow B' e size v n xs :=
  ⟨h.1, h.2.imp id fun ⟨g, cap, cur, h1, h2, h3⟩ => ⟨g, cap, cur, h1, Nat.le_trans hB h2, h3⟩⟩
theorem own_same {w w' : World} {B n size : Nat} {e : TypeId} {v : Value} {xs : List Value} (h : w.ownsRow B e size v n xs) (hb : ∀ k, B ≤ k → w'.heap[k]? = w.heap[k]?) : w'.ownsRow B e size v n xs :=
  ⟨h.1, h.2.imp id fun ⟨g, cap, cur, h1, h2, h3, h4⟩ => ⟨g, cap, cur, h1, h2, (hb g h2).trans h3, h4⟩⟩

/-- A code point and the two that it is made of. -/
abbrev R3 := Int × Int × Int
def c3 (x : R3) : List Value := [.int .i32 x.1, .int .i32 x.2.1, .int .i32 x.2.2]

/-- From a place on a text's runes are these. -/
def Dec (s : ByteArray) : Nat → List Int → Prop
  | pos, [] => ¬ pos < s.size
  | pos, c :: l => pos < s.size ∧ ((Utf8.decode s pos).1 : Int) = c ∧ Dec s (pos + (Utf8.decode s pos).2) l

theorem Try.info_r3 : (Try.prog.info? 70).map (fun i => (i.zero, i.size, i.bytes)) = some (some (.agg #[.int .i32 0, .int .i32 0, .int .i32 0]), 3, 12) := by kernel_rfl

theorem wpList_r3 {ops : Array Oper} {rest : List Oper} {o : Oper} {a : Act} {Q : Exit → Act → World → Prop} (hgd : o.guard = none) (s x : Operand)
    (ho : o.op = .call { callee := .builtin .append, args := #[s, x], argTypes := #[68, 68] }) (W : World) (B n : Nat) (v : Value) (xs : List Value) (r : R3) (hs : a.eval s = v) (N : Nat) (hN : W.heap.size = N) (hx : a.eval x = .slice (some ⟨N, 0, none⟩) 1 1)
    (hown : W.ownsRow B 70 3 v n xs) (hn : n ≤ 5000) (hB : B ≤ W.heap.size)
    (h : ∀ v' w', w'.ownsRow B 70 3 v' (n + 1) (xs ++ c3 r) → Below B W w' → wpList Try.prog ops Q rest (a.put o.dst v') w') :
    wpList Try.prog ops Q (o :: rest) a (W.alloc (.cells (c3 r).toArray 70)) := by
  subst hN
  obtain ⟨i0, hi, hz0, hz1, hz2⟩ := info_parts Try.info_r3
  refine wpList_append_own_at _ hgd s x 68 ho B 70 i0 (.agg #[.int .i32 0, .int .i32 0, .int .i32 0]) 3 12 Try.underlying68 hi hz0 hz1 hz2 rfl (by decide) v n xs hs (hown.alloc _) ⟨W.heap.size, 0, none⟩ 1 1 (c3 r) hx rfl
    (World.news_of_block (heap_alloc_new W _)) (fun u hu => by simp [c3] at hu; rcases hu with rfl | rfl | rfl <;> rfl) (by unfold maxLen; omega) (by omega) (by simp; omega) (fun v' w' h1 h2 _ _ => h v' w' h1 ?_)
  exact ((Below.refl _ _).alloc hB _).trans (below_of_grown h2 B (by simp; omega) (fun k e => (hown.lt k e).1))

/-- What rows has. -/
structure RwW (w : World) (s : ByteArray) (T : List R3) (k pos : Nat) (rest : List Int) (c0 c1 c2 : Int) (ov : Value) (wr : World) : Prop where
  dec : Dec s pos rest
  row : wr.heap[w.heap.size]? = some (.cells #[.int .i32 c0, .int .i32 c1, .int .i32 c2] 70)
  it : wr.heap[w.heap.size + 1]? = some (.stringIter s pos)
  own : wr.ownsRow (w.heap.size + 2) 70 3 ov k ((T.take k).flatMap c3)
  bel : Below w.heap.size w wr
  size : w.heap.size + 2 ≤ wr.heap.size
  le : k ≤ T.length

theorem cells3 {W : World} {b : Nat} {x y z : Value} {t : TypeId} (h : W.heap[b]? = some (.cells #[x, y, z] t)) : W.cell? ⟨b, 0, none⟩ = some x ∧ W.cell? ⟨b, 1, none⟩ = some y ∧ W.cell? ⟨b, 2, none⟩ = some z ∧ ∀ o, W.frozen? ⟨b, o, none⟩ = false := by
  simp [World.cell?, World.frozen?, h]

/-- Behind a rune that is put in its place. -/
theorem RwW.put {w : World} {s : ByteArray} {T : List R3} {k pos : Nat} {c : Int} {rest : List Int} {c0 c1 c2 : Int} {ov : Value} {wr : World} (h : RwW w s T k pos (c :: rest) c0 c1 c2 ov wr) (j : Nat) (d0 d1 d2 : Int)
    (hd : (#[Value.int .i32 c0, .int .i32 c1, .int .i32 c2] : Array Value).setIfInBounds j (.int .i32 c) = #[.int .i32 d0, .int .i32 d1, .int .i32 d2]) :
    RwW w s T k (pos + (Utf8.decode s pos).2) rest d0 d1 d2 ov ((wr.iterAt (w.heap.size + 1) s (pos + (Utf8.decode s pos).2)).setCell ⟨w.heap.size, j, none⟩ (.int .i32 c)) := by
  have hrow : (wr.iterAt (w.heap.size + 1) s (pos + (Utf8.decode s pos).2)).heap[w.heap.size]? = some (.cells #[.int .i32 c0, .int .i32 c1, .int .i32 c2] 70) := by
    rw [iterAt_other _ _ _ _ _ (by omega)]; exact h.row
  refine ⟨h.dec.2.2, ?_, ?_, ?_, ?_, ?_, h.le⟩
  · rw [heap_setCell_same _ _ _ _ _ _ hrow, hd]
  · rw [heap_setCell_other _ _ _ _ (by simp)]
    exact iterAt_heap _ _ _ _ _ h.it
  · refine own_same h.own (fun g hg => ?_)
    rw [heap_setCell_other _ _ _ _ (by simp; omega), iterAt_other _ _ _ _ _ (by omega)]
  · exact (below_iterAt h.bel (by omega) s _).setCell (Nat.le_refl _) _
  · rw [World.size_setCell, iterAt_size]; exact h.size

/-- Behind a row that is put. -/
theorem RwW.next {w : World} {s : ByteArray} {T : List R3} {k pos : Nat} {rest : List Int} {c0 c1 c2 : Int} {ov : Value} {wr : World} (h : RwW w s T k pos rest c0 c1 c2 ov wr) (hk : T[k]? = some (c0, c1, c2)) {v' : Value} {w' : World}
    (ho : w'.ownsRow (w.heap.size + 2) 70 3 v' (k + 1) ((T.take k).flatMap c3 ++ c3 (c0, c1, c2))) (hb : Below (w.heap.size + 2) wr w') : RwW w s T (k + 1) pos rest c0 c1 c2 v' w' := by
  obtain ⟨hlt, hx⟩ := List.getElem?_eq_some_iff.1 hk
  have e : T.take (k + 1) = T.take k ++ [(c0, c1, c2)] := by rw [List.take_succ_eq_append_getElem hlt, hx]
  refine ⟨h.dec, (hb.block _ (by omega)).trans h.row, (hb.block _ (by omega)).trans h.it, ?_, h.bel.trans (hb.mono (by omega)), Nat.le_trans h.size hb.size, hlt⟩
  rw [e, List.flatMap_append]
  simpa using ho

def flat3 (T : List R3) : List Int := T.flatMap fun x => [x.1, x.2.1, x.2.2]
def flat2 (T : List R3) : List Int := T.flatMap fun x => [x.1, x.2.1]

/-- How far rows is, three at a time: where the next rune goes, and which are left. -/
def Far3 (T : List R3) (k j : Nat) (rest : List Int) (c0 c1 : Int) : Prop :=
  (j = 0 ∧ rest = flat3 (T.drop k)) ∨ (∃ x, T[k]? = some x ∧ c0 = x.1 ∧ ((j = 1 ∧ rest = x.2.1 :: x.2.2 :: flat3 (T.drop (k + 1))) ∨ (j = 2 ∧ c1 = x.2.1 ∧ rest = x.2.2 :: flat3 (T.drop (k + 1)))))
def Far2 (T : List R3) (k j : Nat) (rest : List Int) (c0 : Int) : Prop :=
  (j = 0 ∧ rest = flat2 (T.drop k)) ∨ (∃ x, T[k]? = some x ∧ c0 = x.1 ∧ j = 1 ∧ rest = x.2.1 :: flat2 (T.drop (k + 1)))

/-- What the next rune does. -/
def Step3 (T : List R3) (k j : Nat) (rest : List Int) (c0 c1 : Int) : Prop :=
  (rest = [] ∧ k = T.length) ∨ ∃ x c l, T[k]? = some x ∧ rest = c :: l ∧ ((j = 0 ∧ c = x.1 ∧ Far3 T k 1 l x.1 c1) ∨ (j = 1 ∧ c0 = x.1 ∧ c = x.2.1 ∧ Far3 T k 2 l x.1 x.2.1) ∨ (j = 2 ∧ c0 = x.1 ∧ c1 = x.2.1 ∧ c = x.2.2 ∧ ∀ a b, Far3 T (k + 1) 0 l a b))
theorem far3 {T : List R3} {k j : Nat} {rest : List Int} {c0 c1 : Int} (hk : k ≤ T.length) (h : Far3 T k j rest c0 c1) : Step3 T k j rest c0 c1 := by
  rcases h with ⟨rfl, rfl⟩ | ⟨x, hx, rfl, ⟨rfl, rfl⟩ | ⟨rfl, rfl, rfl⟩⟩
  · by_cases hlt : k < T.length
    · right
      rw [List.drop_eq_getElem_cons hlt]
      exact ⟨T[k], T[k].1, _, List.getElem?_eq_getElem hlt, rfl, .inl ⟨rfl, rfl, .inr ⟨T[k], List.getElem?_eq_getElem hlt, rfl, .inl ⟨rfl, rfl⟩⟩⟩⟩
    · left
      rw [List.drop_of_length_le (by omega)]
      exact ⟨rfl, by omega⟩
  · exact .inr ⟨x, _, _, hx, rfl, .inr (.inl ⟨rfl, rfl, rfl, .inr ⟨x, hx, rfl, .inr ⟨rfl, rfl, rfl⟩⟩⟩)⟩
  · exact .inr ⟨x, _, _, hx, rfl, .inr (.inr ⟨rfl, rfl, rfl, rfl, fun _ _ => .inl ⟨rfl, rfl⟩⟩)⟩
def Step2 (T : List R3) (k j : Nat) (rest : List Int) (c0 : Int) : Prop :=
  (rest = [] ∧ k = T.length) ∨ ∃ x c l, T[k]? = some x ∧ rest = c :: l ∧ ((j = 0 ∧ c = x.1 ∧ Far2 T k 1 l x.1) ∨ (j = 1 ∧ c0 = x.1 ∧ c = x.2.1 ∧ ∀ a, Far2 T (k + 1) 0 l a))
theorem far2 {T : List R3} {k j : Nat} {rest : List Int} {c0 : Int} (hk : k ≤ T.length) (h : Far2 T k j rest c0) : Step2 T k j rest c0 := by
  rcases h with ⟨rfl, rfl⟩ | ⟨x, hx, rfl, rfl, rfl⟩
  · by_cases hlt : k < T.length
    · right
      rw [List.drop_eq_getElem_cons hlt]
      exact ⟨T[k], T[k].1, _, List.getElem?_eq_getElem hlt, rfl, .inl ⟨rfl, rfl, .inr ⟨T[k], List.getElem?_eq_getElem hlt, rfl, rfl, rfl⟩⟩⟩
    · left
      rw [List.drop_of_length_le (by omega)]
      exact ⟨rfl, by omega⟩
  · exact .inr ⟨x, _, _, hx, rfl, .inr ⟨rfl, rfl, rfl, fun _ => .inl ⟨rfl, rfl⟩⟩⟩
end Go.Proofs.Ytbamhbfncddieaa.Pr
