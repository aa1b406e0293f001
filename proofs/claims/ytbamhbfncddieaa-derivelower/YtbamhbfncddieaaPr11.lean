import Derived.Test.YtbamhbfncddieaaPr10
namespace Go.Proofs.Ytbamhbfncddieaa.Pr
open Go.RowKit Go.Lib
theorem rc4_at : ∀ (l : List S4) (j i : Nat) (h : j < l.length), i < 4 → (l.flatMap rc4)[j * 4 + i]? = (rc4 l[j])[i]?
  | [], _, _, h, _ => by simp at h
  | x :: l, 0, i, _, hi => by
    simp only [List.flatMap_cons, Nat.zero_mul, Nat.zero_add, List.getElem_cons_zero]
    rw [List.getElem?_append_left (by simp [rc4]; omega)]
  | x :: l, j + 1, i, h, hi => by
    have := rc4_at l j i (by simpa using h) hi
    rw [List.flatMap_cons, List.getElem?_append_right (by simp [rc4]; omega)]
    rw [show (j + 1) * 4 + i - (rc4 x).length = j * 4 + i by simp [rc4]; omega, this]
    rfl
theorem cell_new (w : World) (cs : Array Value) (t : TypeId) (b j : Nat) (hb : b = w.heap.size) : (w.alloc (.cells cs t)).cell? ⟨b, j, none⟩ = cs[j]? := by
  have h := heap_alloc_new w (.cells cs t)
  subst hb
  unfold World.cell?
  rw [h]; rfl
theorem shift_cells (w : World) (t : TypeId) (k : Nat) (hk : k < spanT.length) (i : Nat) (hi : i < 4) : (w.alloc (.cells rspC t)).cell? ⟨w.heap.size, k * 4 + i, none⟩ = (rc4 spanT[k])[i]? := by
  rw [cell_new _ _ _ _ _ rfl, rspC, List.getElem?_toArray, rc4_at spanT k i hk hi]

end Go.Proofs.Ytbamhbfncddieaa.Pr
