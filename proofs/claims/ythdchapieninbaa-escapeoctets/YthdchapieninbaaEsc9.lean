import Derived.Test.YthdchapieninbaaEsc8
import Derived.Shelf.RegionOpen
namespace Go.Proofs.Ythdchapieninbaa
open Go.RowKit

attribute [local go_sem] Oper.semAt_some

theorem cells_kept {W W' : World} {row : Option Nat} {k : Nat} {c : Array Value} {t : TypeId} {fz : Nat × Nat} (h : W.heap[k]? = some (.cells c t fz)) (hg : W.grownBy W' row) (hr : ∀ r, row = some r → ∃ o : Obj, W.heap[r]? = some o ∧ o.isCells = false) : W'.heap[k]? = some (.cells c t fz) := by
  refine (hg.block k (Array.getElem?_eq_some_iff.1 h).1 fun e => ?_).trans h
  obtain ⟨o, ho, hc⟩ := hr k e.symm
  rw [h] at ho
  cases ho
  simp [Obj.isCells] at hc

theorem Bu.kept {B b : Nat} {l : List UInt8} {W W' : World} {row : Option Nat} (h : Bu B b l W) (hg : W.grownBy W' row) (hr : ∀ r, row = some r → ∃ o : Obj, W.heap[r]? = some o ∧ o.isCells = false) : Bu B b l W' := by
  have key : ∀ p, Lib.BuilderAtF 37 5 B b p (Lib.byteCells l) W → Lib.BuilderAtF 37 5 B b p (Lib.byteCells l) W' := by
    rintro p ⟨hB, v, hbk, hown, hne⟩
    refine ⟨hB, v, cells_kept hbk hg hr, ⟨hown.1, ?_⟩, hne⟩
    rcases hown.2 with h | ⟨g, cap, cur, fz, e, h1, h2, h3⟩
    · exact .inl h
    · exact .inr ⟨g, cap, cur, fz, e, h1, cells_kept h2 hg hr, h3⟩
  rcases h with h | h
  · exact .inl (key _ h)
  · exact .inr (key _ h)

theorem Bu.other {B b : Nat} {l : List UInt8} {W W' : World} (h : Bu B b l W) {k : Nat} {o : Obj} (hk : W.heap[k]? = some o) (hb : k ≠ b) (ho : ∀ c fz, o ≠ .cells c 5 fz) (hw : ∀ j, j ≠ k → W'.heap[j]? = W.heap[j]?) : Bu B b l W' := by
  have key : ∀ p, Lib.BuilderAtF 37 5 B b p (Lib.byteCells l) W → Lib.BuilderAtF 37 5 B b p (Lib.byteCells l) W' := by
    rintro p ⟨hB, v, hbk, hown, hne⟩
    refine ⟨hB, v, (hw b (fun e => hb e.symm)).trans hbk, ⟨hown.1, ?_⟩, hne⟩
    rcases hown.2 with h | ⟨g, cap, cur, fz, e, h1, h2, h3⟩
    · exact .inl h
    · refine .inr ⟨g, cap, cur, fz, e, h1, (hw g (fun e2 => ?_)).trans h2, h3⟩
      subst e2; rw [h2] at hk; exact ho _ _ (Option.some.inj hk).symm
  rcases h with h | h
  · exact .inl (key _ h)
  · exact .inr (key _ h)

theorem Bu.cells {B b : Nat} {l : List UInt8} {W : World} (h : Bu B b l W) {o : Obj} (ho : W.heap[b]? = some o) : o.isCells = true := by
  rcases h with ⟨_, _, h, _⟩ | ⟨_, _, h, _⟩ <;> (rw [h] at ho; cases ho; rfl)

theorem turn_keeps {B b : Nat} {l : List UInt8} {W W' : World} (h : Turn B b W W') (hB : Bu B b l W) : KeepsOthers W W' :=
  ⟨h.1.size, fun k o hk ho => h.2 k o hk (fun e => by cases e; have := hB.cells hk; rw [ho] at this; cases this) (fun c fz e => by rw [e] at ho; cases ho)⟩
theorem bel_keeps {W W' : World} (h : Below W.heap.size W W') : KeepsOthers W W' := ⟨h.size, fun k _ hk _ => (h.block k (Array.getElem?_eq_some_iff.1 hk).1).trans hk⟩

theorem set1 {W : World} {k : Nat} {v v' : Value} {t : TypeId} (h : W.heap[k]? = some (.cells #[v] t)) : (W.setCell ⟨k, 0, none⟩ v').heap[k]? = some (.cells #[v'] t) := by
  simp [World.setCell, Array.getElem?_modify, h]

/-- The five boxes. -/
def Boxes (s : ByteArray) (w : World) (fv : Value) (k : Int) (W : World) : Prop :=
  W.heap[w.heap.size]? = some (.cells #[.string s] 9) ∧ W.heap[w.heap.size + 1]? = some (.cells #[fv] 46) ∧
    W.heap[w.heap.size + 1 + 1 + 1]? = some (.cells #[.int .i64 k] 3) ∧ W.heap[w.heap.size + 1 + 1 + 1 + 1]? = some (.cells #[.string s] 9)

theorem Boxes.turn {s : ByteArray} {w W W' : World} {fv : Value} {k : Int} (h : Boxes s w fv k W) (ht : Turn w.heap.size (w.heap.size + 1 + 1) W W') : Boxes s w fv k W' :=
  ⟨ht.block h.1 (by omega) (by simp), ht.block h.2.1 (by omega) (by simp), ht.block h.2.2.1 (by omega) (by simp), ht.block h.2.2.2 (by omega) (by simp)⟩
theorem Boxes.below {s : ByteArray} {w W W' : World} {fv : Value} {k : Int} (h : Boxes s w fv k W) (hb : Below W.heap.size W W') : Boxes s w fv k W' :=
  have e : ∀ {j : Nat} {o : Obj}, W.heap[j]? = some o → W'.heap[j]? = some o := fun hj => (hb.block _ (Array.getElem?_eq_some_iff.1 hj).1).trans hj
  ⟨e h.1, e h.2.1, e h.2.2.1, e h.2.2.2⟩
theorem Boxes.set {s : ByteArray} {w W : World} {fv : Value} {k : Int} (h : Boxes s w fv k W) (k' : Int) : Boxes s w fv k' (W.setCell ⟨w.heap.size + 1 + 1 + 1, 0, none⟩ (.int .i64 k')) :=
  have e : ∀ {j : Nat}, j ≠ w.heap.size + 1 + 1 + 1 → (W.setCell ⟨w.heap.size + 1 + 1 + 1, 0, none⟩ (.int .i64 k')).heap[j]? = W.heap[j]? := fun hj => Below.heap_setCell _ _ _ _ hj
  ⟨(e (by omega)).trans h.1, (e (by omega)).trans h.2.1, set1 h.2.2.1, (e (by omega)).trans h.2.2.2⟩
theorem Boxes.lt {s : ByteArray} {w W : World} {fv : Value} {k : Int} (h : Boxes s w fv k W) : w.heap.size + 1 + 1 + 1 + 1 < W.heap.size := (Array.getElem?_eq_some_iff.1 h.2.2.2).1

/-- What holds between two rounds of replace, an escape having come last, or none. -/
def Rep2 (f : List UInt8 → UInt8 → List UInt8) (s : ByteArray) (w : World) (fv : Value) (pre : List (Nat × UInt8)) (W : World) : Prop :=
  ∃ (k : Nat) (l : List UInt8), k ≤ s.size ∧ l.length ≤ 3 * k ∧ pre ++ escs k (s.data.toList.drop k) = escs 0 s.data.toList ∧ l ++ repl f (s.data.toList.drop k) = repl f s.data.toList ∧ Boxes s w fv k W ∧ Bu w.heap.size (w.heap.size + 1 + 1) l W ∧ Below w.heap.size w W

theorem rep_own (f : List UInt8 → UInt8 → List UInt8) (s : ByteArray) (w : World) (fv : Value) (C : Nat) (hC : w.heap.size ≤ C) : OwnFrom C (Rep2 f s w fv) := by
  rintro pre A A' row ⟨k, l, h1, h2, h3, h4, ⟨c1, c2, c3, c4⟩, hB, hb⟩ hg hr
  have hr' : ∀ r, row = some r → ∃ o : Obj, A.heap[r]? = some o ∧ o.isCells = false := fun r e => (hr r e).2
  exact ⟨k, l, h1, h2, h3, h4, ⟨cells_kept c1 hg hr', cells_kept c2 hg hr', cells_kept c3 hg hr', cells_kept c4 hg hr'⟩, hB.kept hg hr', hb.grown hg hb.size (fun r e => Nat.le_trans hC (hr r e).1)⟩

/-- What a round comes to. -/
theorem rep_next {f : List UInt8 → UInt8 → List UInt8} {s : ByteArray} {w : World} {fv : Value} {pre : List (Nat × UInt8)} {W : World} {x : Nat × UInt8} {rest : List (Nat × UInt8)} {k : Nat} {l : List UInt8} (hk : k ≤ s.size) (hl : l.length ≤ 3 * k)
    (he : pre ++ escs k (s.data.toList.drop k) = escs 0 s.data.toList) (hr : l ++ repl f (s.data.toList.drop k) = repl f s.data.toList) (hx : pre ++ x :: rest = escs 0 s.data.toList) :
    k ≤ x.1 ∧ x.1 + 3 ≤ s.size ∧ ∀ g, g = f (s.extract x.1 (x.1 + 3)).data.toList x.2 → g.length ≤ 3 → Boxes s w fv ((x.1 : Int) + 3) W → Bu w.heap.size (w.heap.size + 1 + 1) (l ++ (s.extract k x.1).data.toList ++ g) W → Below w.heap.size w W → Rep2 f s w fv (pre ++ [x]) W := by
  have hnx : escs k (s.data.toList.drop k) = x :: rest := List.append_cancel_left (he.trans hx.symm)
  obtain ⟨n1, n2, n3, n4, n5⟩ := escs_next f s _ k rfl hk x rest hnx
  have hk2 := at_fits s x.1 n2
  rw [repl_yes f s x.1 n2, ← n3] at n5
  refine ⟨n1, by omega, fun g hg hgl hX hB hb => ⟨x.1 + 3, _, by omega, ?_, ?_, ?_, ?_, hB, hb⟩⟩
  · rw [List.length_append, List.length_append, ext_list, List.length_take, List.length_drop, len_size]; omega
  · rw [List.append_assoc, ← n4]; exact hx
  · rw [← hr, n5, ext_list, hg]; simp only [List.append_assoc]
  · have e : (((x.1 + 3 : Nat)) : Int) = (x.1 : Int) + 3 := by omega
    rw [e]; exact hX

theorem one_cell {W : World} {k : Nat} {v : Value} {t : TypeId} (h : W.heap[k]? = some (.cells #[v] t)) : W.cell? ⟨k, 0, none⟩ = some v ∧ W.frozen? ⟨k, 0, none⟩ = false := by
  simp [World.cell?, World.frozen?, h]
end Go.Proofs.Ythdchapieninbaa
