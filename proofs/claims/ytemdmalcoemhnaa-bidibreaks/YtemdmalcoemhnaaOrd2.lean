import Derived.Test.YtemdmalcoemhnaaOrd1
import Derived.Below
import Derived.WalkKit
import Derived.OwnWalk
import Derived.RegionTactic
import Derived.BigRegion
import Derived.BigQuiet
import Derived.Deep.QuietTactic
import Derived.Deep.RegionHeld3
import Derived.Deep.LoopGhost
import Derived.Laws.Pointers
namespace Go.Proofs.Ytemdmalcoemhnaa
namespace Od
open Go.RowKit

theorem hid {p : Prop} (h : p) : Hid p := h
def i32s (l : List Int) : List Value := l.map (.int .i32 ·)
theorem i32s_len (l : List Int) : (i32s l).length = l.length := by simp [i32s]

/-- A block that begins with these runes. -/
def Blk (w : World) (b : Nat) (R : List Int) (T : List Value) : Prop := w.heap[b]? = some (.cells (i32s R ++ T).toArray 21)
theorem Blk.lt {w : World} {b : Nat} {R : List Int} {T : List Value} (h : Blk w b R T) : b < w.heap.size := (Array.getElem?_eq_some_iff.1 h).1
theorem Blk.cell {w : World} {b : Nat} {R : List Int} {T : List Value} (h : Blk w b R T) (k : Nat) (v : Int) (hk : R[k]? = some v) : w.cell? ⟨b, k, none⟩ = some (.int .i32 v) := by
  have h' : w.heap[b]? = _ := h
  have hlt : k < R.length := (List.getElem?_eq_some_iff.1 hk).1
  simp only [World.cell?, h', List.getElem?_toArray]
  rw [List.getElem?_append_left (by rw [i32s_len]; exact hlt)]
  simp [i32s, hk]
theorem Blk.frozen {w : World} {b : Nat} {R : List Int} {T : List Value} (h : Blk w b R T) (k : Nat) : w.frozen? ⟨b, k, none⟩ = false := by
  have h' : w.heap[b]? = _ := h
  simp [World.frozen?, h']
theorem Blk.drew {w : World} {b : Nat} {R : List Int} {T : List Value} (h : Blk w b R T) : Blk w.drew b R T := h
theorem Blk.set {w : World} {b : Nat} {R : List Int} {T : List Value} (h : Blk w b R T) (k : Nat) (v : Int) (hk : k < R.length) : Blk (w.setCell ⟨b, k, none⟩ (.int .i32 v)) b (R.set k v) T := by
  have h' : w.heap[b]? = _ := h
  have e : (i32s R ++ T).set k (.int .i32 v) = i32s (R.set k v) ++ T := by
    rw [List.set_append_left _ _ (by rw [i32s_len]; exact hk)]
    simp [i32s, List.map_set]
  simp [Blk, World.setCell, Array.getElem?_modify, h', e]

/-- A world in which, of what lay there, one block alone may have turned. -/
structure Alt (b : Nat) (w w' : World) : Prop where
  os : w'.os = w.os
  tape : w'.tape = w.tape
  output : w'.output = w.output
  size : w.heap.size ≤ w'.heap.size
  block : ∀ k, k < w.heap.size → k ≠ b → w'.heap[k]? = w.heap[k]?
theorem Alt.refl (b : Nat) (w : World) : Alt b w w := ⟨rfl, rfl, rfl, Nat.le_refl _, fun _ _ _ => rfl⟩
theorem Alt.trans {b : Nat} {u v w : World} (h : Alt b u v) (k : Alt b v w) : Alt b u w :=
  ⟨k.os.trans h.os, k.tape.trans h.tape, k.output.trans h.output, Nat.le_trans h.size k.size, fun i hi hb => (k.block i (Nat.lt_of_lt_of_le hi h.size) hb).trans (h.block i hi hb)⟩
theorem Alt.of {b : Nat} {w w' : World} (h : Below w.heap.size w w') : Alt b w w' := ⟨h.os, h.tape, h.output, h.size, fun k hk _ => h.block k hk⟩
theorem Alt.drew {b : Nat} {u v : World} (h : Alt b u v) : Alt b u v.drew := ⟨h.os, h.tape, h.output, h.size, h.block⟩
theorem Alt.set {b : Nat} {u v : World} (h : Alt b u v) (k : Nat) (x : Value) : Alt b u (v.setCell ⟨b, k, none⟩ x) :=
  h.trans ⟨rfl, rfl, rfl, by simp [World.setCell], fun i _ hi => Below.heap_setCell _ _ _ _ hi⟩
theorem Alt.below {B b : Nat} {w w' : World} (h : Alt b w w') (hB : B ≤ w.heap.size) (hb : B ≤ b) : Below B w w' := ⟨h.os, h.tape, h.output, h.size, fun k hk => h.block k (by omega) (by omega)⟩
theorem Blk.step {w w' : World} {b : Nat} {R : List Int} {T : List Value} (h : Blk w b R T) (hb : Below w.heap.size w w') : Blk w' b R T := (hb.block b h.lt).trans h

/-- Two change places. -/
theorem set_swap (U V Z : List Int) (x y : Int) (p q : Nat) (hp : p = U.length) (hq : q = U.length + 1 + V.length) : ((U ++ x :: (V ++ y :: Z)).set p y).set q x = U ++ y :: (V ++ x :: Z) := by
  subst hp hq
  rw [List.set_append_right _ _ (Nat.le_refl _), Nat.sub_self, List.set_cons_zero, List.set_append_right _ _ (by omega)]
  rw [show U.length + 1 + V.length - U.length = V.length + 1 by omega, List.set_cons_succ, List.set_append_right _ _ (Nat.le_refl _), Nat.sub_self, List.set_cons_zero]
theorem get_fst (U V Z : List Int) (x y : Int) (p : Nat) (hp : p = U.length) : (U ++ x :: (V ++ y :: Z))[p]? = some x := by subst hp; simp
theorem get_snd (U V Z : List Int) (x y : Int) (q : Nat) (hq : q = U.length + 1 + V.length) : (U ++ x :: (V ++ y :: Z))[q]? = some y := by
  subst hq
  rw [List.getElem?_append_right (by omega), show U.length + 1 + V.length - U.length = V.length + 1 by omega, List.getElem?_cons_succ, List.getElem?_append_right (Nat.le_refl _), Nat.sub_self]
  rfl

theorem swap_world {w : World} {b : Nat} {U V Z : List Int} {x y : Int} {T : List Value} {p q : Nat} (h : Blk w b (U ++ x :: (V ++ y :: Z)) T) (hp : p = U.length) (hq : q = U.length + 1 + V.length) :
    Blk ((w.setCell ⟨b, p, none⟩ (.int .i32 y)).setCell ⟨b, q, none⟩ (.int .i32 x)).drew b (U ++ y :: (V ++ x :: Z)) T ∧ Alt b w ((w.setCell ⟨b, p, none⟩ (.int .i32 y)).setCell ⟨b, q, none⟩ (.int .i32 x)).drew := by
  refine ⟨?_, (((Alt.refl b w).set _ _).set _ _).drew⟩
  have h1 := (h.set p y (by simp; omega)).set q x (by simp; omega)
  rw [set_swap U V Z x y p q hp hq] at h1
  exact h1.drew
/-- The like, the second one written first. -/
theorem swap_world' {w : World} {b : Nat} {U V Z : List Int} {x y : Int} {T : List Value} {p q : Nat} (h : Blk w b (U ++ x :: (V ++ y :: Z)) T) (hp : p = U.length) (hq : q = U.length + 1 + V.length) :
    Blk ((w.setCell ⟨b, q, none⟩ (.int .i32 x)).setCell ⟨b, p, none⟩ (.int .i32 y)).drew b (U ++ y :: (V ++ x :: Z)) T ∧ Alt b w ((w.setCell ⟨b, q, none⟩ (.int .i32 x)).setCell ⟨b, p, none⟩ (.int .i32 y)).drew := by
  refine ⟨?_, (((Alt.refl b w).set _ _).set _ _).drew⟩
  have h1 := (h.set q x (by simp; omega)).set p y (by simp; omega)
  rw [List.set_comm _ _ (by omega), set_swap U V Z x y p q hp hq] at h1
  exact h1.drew

end Od
end Go.Proofs.Ytemdmalcoemhnaa
