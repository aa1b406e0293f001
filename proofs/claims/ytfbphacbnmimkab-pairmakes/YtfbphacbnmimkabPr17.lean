import Derived.Test.YtfbphacbnmimkabPr16
import Derived.Deep.Slices
import Derived.ChangeSame
import Derived.OpenShut
namespace Go.Proofs.Ytfbphacbnmimkab
open Go.RowKit Go.ChangeShapes Go.WideShapes

theorem cell_none {w : World} {x : Addr} {v : Value} (h : w.cell? x = some v) : ∃ b off, x = ⟨b, off, none⟩ ∧ b < w.heap.size := by
  obtain ⟨b, off, spot⟩ := x
  have hs : spot = none := World.cell?_spot h
  subst hs
  exact ⟨b, off, rfl, World.block_lt_of_cell? w _ h⟩
theorem add_none (b off j : Nat) : (⟨b, off, none⟩ : Addr).add j = ⟨b, off + j, none⟩ := by
  unfold Addr.add
  by_cases h : j = 0
  · subst h; rfl
  · rw [if_neg h]

/-- A slice of two runes each, as it is read. -/
def TwoSl (w : World) (v : Value) (os : List (Int × Int)) : Prop :=
  ((os = [] ∧ ∃ a cap, v = .slice a 0 cap) ∨ ∃ b off cap, v = .slice (some ⟨b, off, none⟩) os.length cap ∧ b < w.heap.size ∧ ∀ j (h : j < os.length), w.cell? ⟨b, off + j * 2, none⟩ = some (.int .i32 os[j].1) ∧ w.cell? ⟨b, off + j * 2 + 1, none⟩ = some (.int .i32 os[j].2)) ∧
  ∀ z ∈ os, I32 z.1 ∧ I32 z.2

theorem rune_wf {a : Int} (h : (Lit.int .i32 a).wf = true) : I32 a := by
  simp only [Lit.wf, Bool.and_eq_true, decide_eq_true_eq] at h; exact h

theorem open_two {H : Type} {enc : TypeId × Value → H} {w : World} {base : Nat} {spare : Nat → Bool} {held : Bool} {cs : List Value} {v : Value} (hcs : cs = [v]) {d : DataW H × List MemPlace}
    (h : ∃ fuel, DataW.trod enc Try.prog w base spare held fuel 37 cs = some d) : ∃ os : List (Int × Int), TwoSl w v os ∧ os.length ≤ maxLen := by
  obtain ⟨fuel, h⟩ := h
  subst hcs
  have ce : Try.prog.cellsOf 38 = 2 := Try.cellsKk
  have c1 : Try.prog.cellsOf 21 = 1 := Try.cellsI32
  rcases Deep.open_slice Try.underlying37 h with ⟨h1, _⟩ | ⟨a, len, cap, m, n, D, Pl, h1, hb, hl, hm, hmm, _, hx⟩
  · simp at h1; exact ⟨[], ⟨.inl ⟨rfl, none, 0, h1⟩, fun z hz => by simp at hz⟩, Nat.zero_le _⟩
  simp at h1; subst h1
  by_cases h0 : len = 0
  · subst h0; exact ⟨[], ⟨.inl ⟨rfl, _, _, rfl⟩, fun z hz => by simp at hz⟩, Nat.zero_le _⟩
  have hlm : len ≤ m := by rw [hmm]; split <;> omega
  have each : ∀ i, i < m → ∃ q : Int × Int, (w.cell? ((a.add (i * 2)).add 0) = some (.int .i32 q.1) ∧ w.cell? ((a.add (i * 2)).add 1) = some (.int .i32 q.2)) ∧ I32 q.1 ∧ I32 q.2 := by
    intro i hi
    obtain ⟨cs', h1, h2⟩ := hx i hi
    rw [ce] at h1
    obtain ⟨_, hlen, hcell⟩ := World.cells?_some h1
    obtain ⟨xs, k, _, _, _, hxl, hf⟩ := DataW.trod_array Try.underlying38 h2
    match cs', hlen with
    | [v0, v1], _ =>
      have e0 := hcell 0 (by omega)
      have e1 := hcell 1 (by omega)
      have g0 := hf 0 (by omega)
      have g1 := hf 1 (by omega)
      rw [List.getElem?_eq_getElem (by omega)] at g0 g1
      have t0 : DataW.trod enc Try.prog w base spare held k 21 [v0] = some xs[0] := by simpa [c1] using g0
      have t1 : DataW.trod enc Try.prog w base spare held k 21 [v1] = some xs[1] := by simpa [c1] using g1
      obtain ⟨z0, q0, _, p0⟩ := DataW.trod_int Try.underlying21 t0
      obtain ⟨z1, q1, _, p1⟩ := DataW.trod_int Try.underlying21 t1
      simp at q0 q1
      subst q0 q1
      exact ⟨(z0, z1), ⟨e0, e1⟩, rune_wf p0, rune_wf p1⟩
  obtain ⟨o0, ho0⟩ := each 0 (by omega)
  obtain ⟨q, hq⟩ := Deep.choose_lt (α := Int × Int) (p := fun i q => (w.cell? ((a.add (i * 2)).add 0) = some (.int .i32 q.1) ∧ w.cell? ((a.add (i * 2)).add 1) = some (.int .i32 q.2)) ∧ I32 q.1 ∧ I32 q.2) each
  obtain ⟨b, off, e1, hlt⟩ := cell_none ho0.1.1
  have e2 : a = ⟨b, off, none⟩ := by simpa [Addr.add] using e1
  subst e2
  refine ⟨(List.range len).map q, ⟨.inr ⟨b, off, cap, by simp, hlt, fun j hj => ?_⟩, fun z hz => ?_⟩, by rw [List.length_map, List.length_range]; omega⟩
  · have hj' : j < len := by simpa using hj
    have := (hq j (by omega)).1
    rw [add_none, add_none, add_none] at this
    simpa [Nat.add_assoc] using this
  · obtain ⟨j, hj, rfl⟩ := List.mem_map.1 hz
    exact (hq j (by have := List.mem_range.1 hj; omega)).2
end Go.Proofs.Ytfbphacbnmimkab
