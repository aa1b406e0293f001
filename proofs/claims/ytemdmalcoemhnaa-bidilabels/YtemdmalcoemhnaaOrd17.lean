import Derived.Test.YtemdmalcoemhnaaOrd16
namespace Go.Proofs.Ytemdmalcoemhnaa
namespace Od
open Go.RowKit

theorem run_index_agg {P : Program} (w : World) (t e : TypeId) (n : Nat) (ty : TypeInfo) (cs : Array Value) (k : IntKind) (i : Nat) (ht : P.underlying t = some (.array n e)) (hi : P.info? e = some ty) (h : i < n) :
    (Instr.index t (.agg cs) (.int k (i : Int))).run P w = (part e cs (i * ty.size)).run P w := by
  simp [Instr.index, asIntOf, run_underlying ht, sizeOf, typeInfo, hi]
  intro hn
  omega
theorem cls_row (r : Int) : clsP r = (Uc.rrowP r).2.2.2.2.2.1 := by
  unfold clsP
  rw [Uc.book_tells r]
  rfl

/-- A block that begins with these ints. -/
def Blq (w : World) (b : Nat) (R : List Int) (T : List Value) : Prop := w.heap[b]? = some (.cells (ivs .i64 R ++ T).toArray 3)
theorem Blq.lt {w : World} {b : Nat} {R : List Int} {T : List Value} (h : Blq w b R T) : b < w.heap.size := (Array.getElem?_eq_some_iff.1 h).1
theorem Blq.cell {w : World} {b : Nat} {R : List Int} {T : List Value} (h : Blq w b R T) (k : Nat) (v : Int) (hk : R[k]? = some v) : w.cell? ⟨b, k, none⟩ = some (.int .i64 v) := by
  have h' : w.heap[b]? = _ := h
  have hlt : k < R.length := (List.getElem?_eq_some_iff.1 hk).1
  simp only [World.cell?, h', List.getElem?_toArray]
  rw [List.getElem?_append_left (by rw [ivs_len]; exact hlt)]
  simp [ivs, hk]
theorem Blq.frozen {w : World} {b : Nat} {R : List Int} {T : List Value} (h : Blq w b R T) (k : Nat) : w.frozen? ⟨b, k, none⟩ = false := by
  have h' : w.heap[b]? = _ := h
  simp [World.frozen?, h']
theorem Blq.set {w : World} {b : Nat} {R : List Int} {T : List Value} (h : Blq w b R T) (k : Nat) (v : Int) (hk : k < R.length) : Blq (w.setCell ⟨b, k, none⟩ (.int .i64 v)) b (R.set k v) T := by
  have h' : w.heap[b]? = _ := h
  have e : (ivs .i64 R ++ T).set k (.int .i64 v) = ivs .i64 (R.set k v) ++ T := by
    rw [List.set_append_left _ _ (by rw [ivs_len]; exact hk)]
    simp [ivs, List.map_set]
  simp [Blq, World.setCell, Array.getElem?_modify, h', e]
theorem Blq.other {w : World} {b g : Nat} {R : List Int} {T : List Value} (h : Blq w b R T) (k : Nat) (v : Value) (hg : b ≠ g) : Blq (w.setCell ⟨g, k, none⟩ v) b R T := (Below.heap_setCell _ _ _ _ hg).trans h
theorem Blq.step {w w' : World} {b : Nat} {R : List Int} {T : List Value} (h : Blq w b R T) (hb : Below w.heap.size w w') : Blq w' b R T := (hb.block b h.lt).trans h
theorem Blq.sl {w : World} {b : Nat} {R : List Int} {T : List Value} (h : Blq w b R T) (cap : Nat) (hc : R.length ≤ cap) : Sn .i64 w (.slice (some ⟨b, 0, none⟩) R.length cap) R :=
  ⟨_, cap, rfl, hc, fun e => (by cases e), fun j hj => ⟨b, 0, rfl, h.lt, by rw [Nat.zero_add]; exact h.cell _ _ (List.getElem?_eq_getElem hj)⟩⟩
theorem own_blq {w : World} {B : Nat} {v : Value} {l : List Int} (h : w.ownsRow B 3 1 v l.length (ivs .i64 l)) (hs : isSome v) : ∃ g cap T, v = .slice (some ⟨g, 0, none⟩) l.length cap ∧ l.length ≤ cap ∧ B ≤ g ∧ Blq w g l T := by
  rcases h.2 with ⟨h1, h2⟩ | ⟨g, cap, cur, rfl, h2, h3, h4, h5, h6, h7⟩
  · rw [h1] at hs; exact hs.elim
  · refine ⟨g, cap, cur.toList.drop l.length, rfl, h4, h2, ?_⟩
    show w.heap[g]? = _
    rw [h3]
    have e3 : (ivs .i64 l ++ cur.toList.drop l.length).toArray = cur := by
      have h10 : cur.toList.take l.length = ivs .i64 l := by simpa using h7
      rw [← h10, List.take_append_drop]
    rw [e3]

/-- What the reference's rounds keep: the numbers, and their classes. -/
structure RsW (w : World) (g gc : Nat) (T Tc : List Value) (cur : List Int) (W : World) : Prop where
  ne : g ≠ gc
  lo : w.heap.size ≤ g ∧ w.heap.size ≤ gc
  o : Blq W g cur T
  c : Blq W gc (cur.map clsP) Tc
  ok : Ok w.heap.size w W
theorem RsW.swap {w : World} {g gc : Nat} {T Tc : List Value} {A B : List Int} {x y : Int} {W : World} (h : RsW w g gc T Tc (A ++ x :: y :: B) W) (p q : Nat) (hp : p = A.length) (hq : q = A.length + 1) :
    RsW w g gc T Tc (A ++ y :: x :: B) ((((W.setCell ⟨g, q, none⟩ (.int .i64 x)).setCell ⟨gc, q, none⟩ (.int .i64 (clsP x))).setCell ⟨g, p, none⟩ (.int .i64 y)).setCell ⟨gc, p, none⟩ (.int .i64 (clsP y))) := by
  have e1 : ((A ++ x :: y :: B).set q x).set p y = A ++ y :: x :: B := by
    have := set_swap A [] B x y p q hp (by simpa using hq)
    rw [List.set_comm _ _ (by omega)] 
    simpa using this
  have e2 : (((A ++ x :: y :: B).map clsP).set q (clsP x)).set p (clsP y) = (A ++ y :: x :: B).map clsP := by
    rw [← List.map_set, ← List.map_set, e1]
  refine ⟨h.ne, h.lo, ?_, ?_, ?_⟩
  · have := ((((h.o.set q x (by simp; omega)).other q (.int .i64 (clsP x)) h.ne).set p y (by simp; omega)).other p (.int .i64 (clsP y)) h.ne)
    rwa [e1] at this
  · have := ((((h.c.other q (.int .i64 x) (Ne.symm h.ne)).set q (clsP x) (by simp; omega)).other p (.int .i64 y) (Ne.symm h.ne)).set p (clsP y) (by simp; omega))
    rwa [e2] at this
  · have hb := ((((h.ok.1.setCell (p := ⟨g, q, none⟩) h.lo.1 (.int .i64 x)).setCell (p := ⟨gc, q, none⟩) h.lo.2 (.int .i64 (clsP x))).setCell (p := ⟨g, p, none⟩) h.lo.1 (.int .i64 y)).setCell (p := ⟨gc, p, none⟩) h.lo.2 (.int .i64 (clsP y)))
    exact ⟨hb, by simpa [World.setCell] using h.ok.2⟩
theorem RsW.drew {w : World} {g gc : Nat} {T Tc : List Value} {cur : List Int} {W : World} (h : RsW w g gc T Tc cur W) : RsW w g gc T Tc cur W.drew := ⟨h.ne, h.lo, h.o, h.c, h.ok.step ((Below.refl _ _).drew)⟩
end Od
end Go.Proofs.Ytemdmalcoemhnaa
