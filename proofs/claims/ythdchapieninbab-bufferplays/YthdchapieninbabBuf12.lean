import Derived.Test.YthdchapieninbabBuf11
import Derived.Test.YthdchapieninbabBuf7
namespace Go.Proofs.Ythdchapieninbab
open Go.RowKit Go.ChangeShapes Go.WideShapes

theorem byte_wf {a : Int} (h : (Lit.int .u8 a).wf = true) : 0 ≤ a ∧ a ≤ 255 := by
  simp only [Lit.wf, Bool.and_eq_true, decide_eq_true_eq] at h; exact h

theorem open_opsl {H : Type} {enc : TypeId × Value → H} {w : World} {base : Nat} {spare : Nat → Bool} {held : Bool} {cs : List Value} {v : Value} (hcs : cs = [v]) {d : DataW H × List MemPlace}
    (h : ∃ fuel, DataW.trod enc Try.prog w base spare held fuel 22 cs = some d) : ∃ os : List OpR, OpSl w v os ∧ os.length ≤ maxLen := by
  obtain ⟨fuel, h⟩ := h
  subst hcs
  have ce : Try.prog.cellsOf 31 = 4 := by kernel_rfl
  have c3 : Try.prog.cellsOf 3 = 1 := by kernel_rfl
  have c9 : Try.prog.cellsOf 9 = 1 := by kernel_rfl
  have c5 : Try.prog.cellsOf 5 = 1 := by kernel_rfl
  rcases Deep.open_slice Try.underlying22 h with ⟨h1, _⟩ | ⟨a, len, cap, m, n, D, Pl, h1, hb, hl, hm, hmm, _, hx⟩
  · simp at h1; exact ⟨[], .inl ⟨rfl, none, 0, h1⟩, Nat.zero_le _⟩
  simp at h1; subst h1
  by_cases h0 : len = 0
  · subst h0; exact ⟨[], .inl ⟨rfl, _, _, rfl⟩, Nat.zero_le _⟩
  have hlm : len ≤ m := by rw [hmm]; split <;> omega
  have each : ∀ i, i < m → ∃ o : OpR, (w.cell? ((a.add (i * 4)).add 0) = some (.int .i64 o.kind) ∧ w.cell? ((a.add (i * 4)).add 1) = some (.int .i64 o.n) ∧ w.cell? ((a.add (i * 4)).add 2) = some (.string o.s) ∧ w.cell? ((a.add (i * 4)).add 3) = some (.int .u8 o.c)) ∧ o.ok := by
    intro i hi
    obtain ⟨cs', h1, h2⟩ := hx i hi
    rw [ce] at h1
    obtain ⟨_, hlen, hcell⟩ := World.cells?_some h1
    obtain ⟨xs, k, _, _, _, hxl, hf⟩ := DataW.trod_struct Try.underlying31 h2
    match cs', hlen with
    | [v0, v1, v2, v3], _ =>
      have e0 := hcell 0 (by omega)
      have e1 := hcell 1 (by omega)
      have e2 := hcell 2 (by omega)
      have e3 := hcell 3 (by omega)
      have g0 := hf 0 _ rfl
      have g1 := hf 1 _ rfl
      have g2 := hf 2 _ rfl
      have g3 := hf 3 _ rfl
      have hxl' : xs.length = 4 := hxl
      rw [List.getElem?_eq_getElem (by omega)] at g0 g1 g2 g3
      have t0 : DataW.trod enc Try.prog w base spare held k 3 [v0] = some xs[0] := by simpa [c3] using g0
      have t1 : DataW.trod enc Try.prog w base spare held k 3 [v1] = some xs[1] := by simpa [c3] using g1
      have t2 : DataW.trod enc Try.prog w base spare held k 9 [v2] = some xs[2] := by simpa [c9] using g2
      have t3 : DataW.trod enc Try.prog w base spare held k 5 [v3] = some xs[3] := by simpa [c5] using g3
      obtain ⟨z0, q0, _, _⟩ := DataW.trod_int Try.underlying3 t0
      obtain ⟨z1, q1, _, _⟩ := DataW.trod_int Try.underlying3 t1
      obtain ⟨z2, q2, _, p2⟩ := DataW.trod_string Try.underlying9 t2
      obtain ⟨z3, q3, _, p3⟩ := DataW.trod_int Try.underlying5 t3
      simp at q0 q1 q2 q3
      subst q0 q1 q2 q3
      exact ⟨⟨z0, z1, z2, z3⟩, ⟨e0, e1, e2, e3⟩, p2, (byte_wf p3).1, (byte_wf p3).2⟩
  obtain ⟨o0, ho0⟩ := each 0 (by omega)
  obtain ⟨q, hq⟩ := Deep.choose_lt (α := Int × Int × ByteArray × Int) (p := fun i q => (w.cell? ((a.add (i * 4)).add 0) = some (.int .i64 q.1) ∧ w.cell? ((a.add (i * 4)).add 1) = some (.int .i64 q.2.1) ∧ w.cell? ((a.add (i * 4)).add 2) = some (.string q.2.2.1) ∧ w.cell? ((a.add (i * 4)).add 3) = some (.int .u8 q.2.2.2)) ∧ OpR.ok ⟨q.1, q.2.1, q.2.2.1, q.2.2.2⟩) (fun i hi => let ⟨o, ho⟩ := each i hi; ⟨(o.kind, o.n, o.s, o.c), ho⟩)
  have hf : ∀ i, i < m → (w.cell? ((a.add (i * 4)).add 0) = some (.int .i64 (q i).1) ∧ w.cell? ((a.add (i * 4)).add 1) = some (.int .i64 (q i).2.1) ∧ w.cell? ((a.add (i * 4)).add 2) = some (.string (q i).2.2.1) ∧ w.cell? ((a.add (i * 4)).add 3) = some (.int .u8 (q i).2.2.2)) ∧ OpR.ok ⟨(q i).1, (q i).2.1, (q i).2.2.1, (q i).2.2.2⟩ := hq
  obtain ⟨b, off, e1, hlt⟩ := cell_none ho0.1.1
  have e2 : a = ⟨b, off, none⟩ := by simpa [Addr.add] using e1
  subst e2
  refine ⟨(List.range len).map (fun i => ⟨(q i).1, (q i).2.1, (q i).2.2.1, (q i).2.2.2⟩), .inr ⟨b, off, cap, by simp, hlt, fun j hj => ?_⟩, by rw [List.length_map, List.length_range]; omega⟩
  have hj' : j < len := by simpa using hj
  have := hf j (by omega)
  rw [add_none, add_none, add_none, add_none, add_none] at this
  simpa [Nat.add_assoc] using this
theorem set3_same {w : World} {k : Nat} {a b c x y z : Value} {t : TypeId} (h : w.heap[k]? = some (.cells #[a, b, c] t)) : (((w.setCell ⟨k, 0, none⟩ x).setCell ⟨k, 1, none⟩ y).setCell ⟨k, 2, none⟩ z).heap[k]? = some (.cells #[x, y, z] t) := by
  simp [World.setCell, Array.getElem?_modify, h]

theorem Ok.set3 {B : Nat} {W0 v : World} (h : Ok B W0 v) (k : Nat) (hk : B ≤ k) (x y z : Value) : Ok B W0 (((v.setCell ⟨k, 0, none⟩ x).setCell ⟨k, 1, none⟩ y).setCell ⟨k, 2, none⟩ z) :=
  ⟨((h.1.setCell (p := ⟨k, 0, none⟩) hk x).setCell (p := ⟨k, 1, none⟩) hk y).setCell (p := ⟨k, 2, none⟩) hk z, by have := h.2; simpa using this⟩

/-- What holds where a step has been done: its state lies in a box of its own, and the buffer is in it. -/
def AtY (w : World) (xb room : Nat) (x : ByteArray) (full : Bool) (y ok : Value) (wx : World) : Prop :=
  ∃ yb x' full', y = .pointer (some ⟨yb, 0, none⟩) ∧ ok = .bool true ∧ wx.heap[yb]? = some (.cells #[.string x', .int .i64 room, .bool full'] 29) ∧
    wx.heap[xb]? = some (.cells #[.string x, .int .i64 room, .bool full] 29) ∧ Ok w.heap.size w wx ∧ Buf w.heap.size w.heap.size x'.data.toList room full' wx ∧ yb ≠ xb

theorem atY_late {w W3 : World} {xb room : Nat} {x x' : ByteArray} {full full' : Bool} (hx : W3.heap[xb]? = some (.cells #[.string x, .int .i64 room, .bool full] 29)) (hok : Ok w.heap.size w W3) (hB : Buf w.heap.size w.heap.size x'.data.toList room full' W3) :
    AtY w xb room x full (.pointer (some ⟨W3.heap.size, 0, none⟩)) (.bool true) (W3.alloc (.cells #[.string x', .int .i64 room, .bool full'] 29)) := by
  have hlt := (Array.getElem?_eq_some_iff.1 hx).1
  exact ⟨_, x', full', rfl, rfl, heap_alloc_new W3 _, by rw [Below.heap_alloc _ _ _ hlt]; exact hx, hok.alloc, hB.alloc _, by omega⟩

theorem atY_early {w W3 : World} {xb yb room : Nat} {x x' : ByteArray} {full full' : Bool} {a b c : Value} (hx : W3.heap[xb]? = some (.cells #[.string x, .int .i64 room, .bool full] 29)) (hy : W3.heap[yb]? = some (.cells #[a, b, c] 29)) (hok : Ok w.heap.size w W3) (hB : Buf w.heap.size w.heap.size x'.data.toList room full' W3) (hne : yb ≠ xb) (hyb : w.heap.size < yb) :
    AtY w xb room x full (.pointer (some ⟨yb, 0, none⟩)) (.bool true) (((W3.setCell ⟨yb, 0, none⟩ (.string x')).setCell ⟨yb, 1, none⟩ (.int .i64 room)).setCell ⟨yb, 2, none⟩ (.bool full')) :=
  ⟨yb, x', full', rfl, rfl, set3_same hy, by rw [set3_other _ _ _ _ _ _ (fun e => hne e.symm)]; exact hx, hok.set3 yb (by omega) _ _ _, hB.heap hy (by omega) (by simp) (fun j hj => set3_other _ _ _ _ _ _ hj), hne⟩

end Go.Proofs.Ythdchapieninbab
