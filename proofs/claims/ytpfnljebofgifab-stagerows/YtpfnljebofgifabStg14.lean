import Derived.Test.YtpfnljebofgifabStg13
import Derived.Deep.Slices
import Derived.ChangeSame
namespace Go.Proofs.Ytpfnljebofgifab
open Go.RowKit Go.ChangeShapes Go.WideShapes

theorem cell_none {w : World} {x : Addr} {v : Value} (h : w.cell? x = some v) : ∃ b off, x = ⟨b, off, none⟩ ∧ b < w.heap.size := by
  obtain ⟨b, off, spot⟩ := x
  have hs : spot = none := World.cell?_spot h
  subst hs
  exact ⟨b, off, rfl, World.block_lt_of_cell? w _ h⟩
theorem add_none (b off j : Nat) : (⟨b, off, none⟩ : Addr).add j = ⟨b, off + j, none⟩ := by
  unfold Addr.add
  by_cases h : j = 0
  · subst h; rfl
  · rw [if_neg h]

def RowOk (x : SRow Int) : Prop := (Lit.int .i32 x.f).wf = true ∧ (Lit.int .i32 x.t).wf = true ∧ (Lit.int .u8 x.v).wf = true

/-- A slice that holds these rows, qs the law takes them. -/
def LIn (w : World) (v : Value) (l : List (SRow Int)) : Prop :=
  ∃ ao cap, v = .slice ao l.length cap ∧ ∀ j (h : j < l.length), RowOk l[j] ∧ ∃ g off, ao = some ⟨g, off, none⟩ ∧ g < w.heap.size ∧
    w.cell? ⟨g, off + j * 3, none⟩ = some (.int .i32 l[j].f) ∧ w.cell? ⟨g, off + j * 3 + 1, none⟩ = some (.int .i32 l[j].t) ∧ w.cell? ⟨g, off + j * 3 + 2, none⟩ = some (.int .u8 l[j].v)

theorem open_lin {H : Type} {enc : TypeId × Value → H} {w : World} {base : Nat} {spare : Nat → Bool} {held : Bool} {cs : List Value} {v : Value} (hcs : cs = [v]) {d : DataW H × List MemPlace}
    (h : ∃ fuel, DataW.trod enc Try.prog w base spare held fuel 22 cs = some d) : ∃ l : List (SRow Int), LIn w v l ∧ l.length ≤ maxLen := by
  obtain ⟨fuel, h⟩ := h
  subst hcs
  have ce : Try.prog.cellsOf 35 = 3 := by kernel_rfl
  have c3 : Try.prog.cellsOf 21 = 1 := by kernel_rfl
  have c5 : Try.prog.cellsOf 5 = 1 := by kernel_rfl
  rcases Deep.open_slice Try.underlying22 h with ⟨h1, _⟩ | ⟨a, len, cap, m, n, D, Pl, h1, hb, hl, hm, hmm, _, hx⟩
  · simp at h1; exact ⟨[], ⟨none, 0, h1, fun j hj => by simp at hj⟩, Nat.zero_le _⟩
  simp at h1; subst h1
  by_cases h0 : len = 0
  · subst h0; exact ⟨[], ⟨_, _, rfl, fun j hj => by simp at hj⟩, Nat.zero_le _⟩
  have hlm : len ≤ m := by rw [hmm]; split <;> omega
  have each : ∀ i, i < m → ∃ o : SRow Int, (w.cell? ((a.add (i * 3)).add 0) = some (.int .i32 o.f) ∧ w.cell? ((a.add (i * 3)).add 1) = some (.int .i32 o.t) ∧ w.cell? ((a.add (i * 3)).add 2) = some (.int .u8 o.v)) ∧ RowOk o := by
    intro i hi
    obtain ⟨cs', h1, h2⟩ := hx i hi
    rw [ce] at h1
    obtain ⟨_, hlen, hcell⟩ := World.cells?_some h1
    obtain ⟨xs, k, _, _, _, hxl, hf⟩ := DataW.trod_struct Try.underlying35 h2
    match cs', hlen with
    | [v0, v1, v2], _ =>
      have e0 := hcell 0 (by omega)
      have e1 := hcell 1 (by omega)
      have e2 := hcell 2 (by omega)
      have g0 := hf 0 _ rfl
      have g1 := hf 1 _ rfl
      have g2 := hf 2 _ rfl
      have hxl' : xs.length = 3 := hxl
      rw [List.getElem?_eq_getElem (by omega)] at g0 g1 g2
      have t0 : DataW.trod enc Try.prog w base spare held k 21 [v0] = some xs[0] := by simpa [c3] using g0
      have t1 : DataW.trod enc Try.prog w base spare held k 21 [v1] = some xs[1] := by simpa [c3] using g1
      have t2 : DataW.trod enc Try.prog w base spare held k 5 [v2] = some xs[2] := by simpa [c5] using g2
      obtain ⟨z0, q0, _, p0⟩ := DataW.trod_int Try.underlying21 t0
      obtain ⟨z1, q1, _, p1⟩ := DataW.trod_int Try.underlying21 t1
      obtain ⟨z2, q2, _, p2⟩ := DataW.trod_int Try.underlying5 t2
      simp at q0 q1 q2
      subst q0 q1 q2
      exact ⟨⟨z0, z1, z2⟩, ⟨e0, e1, e2⟩, p0, p1, p2⟩
  obtain ⟨o0, ho0⟩ := each 0 (by omega)
  obtain ⟨q, hq⟩ := Deep.choose_lt (α := Int × Int × Int) (p := fun i q => (w.cell? ((a.add (i * 3)).add 0) = some (.int .i32 q.1) ∧ w.cell? ((a.add (i * 3)).add 1) = some (.int .i32 q.2.1) ∧ w.cell? ((a.add (i * 3)).add 2) = some (.int .u8 q.2.2)) ∧ RowOk ⟨q.1, q.2.1, q.2.2⟩) (fun i hi => let ⟨o, ho⟩ := each i hi; ⟨(o.f, o.t, o.v), ho⟩)
  have hf : ∀ i, i < m → (w.cell? ((a.add (i * 3)).add 0) = some (.int .i32 (q i).1) ∧ w.cell? ((a.add (i * 3)).add 1) = some (.int .i32 (q i).2.1) ∧ w.cell? ((a.add (i * 3)).add 2) = some (.int .u8 (q i).2.2)) ∧ RowOk ⟨(q i).1, (q i).2.1, (q i).2.2⟩ := hq
  obtain ⟨b, off, e1, hlt⟩ := cell_none ho0.1.1
  have e2 : a = ⟨b, off, none⟩ := by simpa [Addr.add] using e1
  subst e2
  refine ⟨(List.range len).map (fun i => ⟨(q i).1, (q i).2.1, (q i).2.2⟩), ⟨some ⟨b, off, none⟩, cap, by simp, fun j hj => ?_⟩, by rw [List.length_map, List.length_range]; omega⟩
  have hj' : j < len := by simpa using hj
  have := hf j (by omega)
  rw [add_none, add_none, add_none, add_none] at this
  refine ⟨by simpa using this.2, b, off, rfl, hlt, ?_⟩
  simpa [Nat.add_assoc] using this.1

/-- A slice of runes. -/
def AskSl (w : World) (v : Value) (qs : List Int) : Prop :=
  ∃ ao cap, v = .slice ao qs.length cap ∧ (ao = none → cap = 0) ∧ qs.length ≤ cap ∧ ∀ j (h : j < qs.length), ∃ g off, ao = some ⟨g, off, none⟩ ∧ g < w.heap.size ∧ w.cell? ⟨g, off + j, none⟩ = some (.int .i32 qs[j])

theorem AskSl.step {w w' : World} {v : Value} {qs : List Int} (h : AskSl w v qs) (hb : Below w.heap.size w w') : AskSl w' v qs := by
  obtain ⟨ao, cap, e, hn, hcp, hc⟩ := h
  refine ⟨ao, cap, e, hn, hcp, fun j hj => ?_⟩
  obtain ⟨g, off, e2, hg, h2⟩ := hc j hj
  exact ⟨g, off, e2, by have := hb.size; omega, (hb.cell (p := ⟨g, off + j, none⟩) hg).trans h2⟩

theorem open_ask {H : Type} {enc : TypeId × Value → H} {w : World} {base : Nat} {spare : Nat → Bool} {held : Bool} {cs : List Value} {v : Value} (hcs : cs = [v]) {d : DataW H × List MemPlace}
    (h : ∃ fuel, DataW.trod enc Try.prog w base spare held fuel 23 cs = some d) : ∃ qs : List Int, (AskSl w v qs ∧ ∀ z ∈ qs, (Lit.int .i32 z).wf = true) ∧ qs.length ≤ maxLen := by
  obtain ⟨fuel, h⟩ := h
  subst hcs
  rcases Deep.open_slice1 Try.underlying23 (by kernel_rfl) h with ⟨h1, _⟩ | ⟨a, len, cap, m, n, V, D, Pl, h1, hb, hl, hm, hmm, _, hx⟩
  · simp at h1; exact ⟨[], ⟨⟨none, 0, h1, fun _ => rfl, Nat.le_refl _, fun j hj => by simp at hj⟩, fun z hz => by simp at hz⟩, Nat.zero_le _⟩
  simp at h1; subst h1
  by_cases h0 : len = 0
  · subst h0; exact ⟨[], ⟨⟨some a, cap, rfl, fun e => by simp at e, Nat.zero_le _, fun j hj => by simp at hj⟩, fun z hz => by simp at hz⟩, Nat.zero_le _⟩
  have hlm : len ≤ m := by rw [hmm]; split <;> omega
  obtain ⟨b, off, e1, hlt⟩ := cell_none (hx 0 (by omega)).1
  have e2 : a = ⟨b, off, none⟩ := by simpa [Addr.add] using e1
  subst e2
  obtain ⟨q, hq⟩ := Deep.choose_lt (α := Int) (p := fun i z => V i = .int .i32 z ∧ (Lit.int .i32 z).wf = true) (fun i hi => by
    obtain ⟨z, hz, _, hw⟩ := DataW.trod_int Try.underlying21 (hx i hi).2
    simp at hz
    exact ⟨z, hz, hw⟩)
  refine ⟨(List.range len).map q, ⟨⟨some ⟨b, off, none⟩, cap, by simp, fun e => by simp at e, by simpa using hl, fun j hj => ⟨b, off, rfl, hlt, ?_⟩⟩, fun z hz => by
    simp only [List.mem_map, List.mem_range] at hz
    obtain ⟨i, hi, rfl⟩ := hz
    exact (hq i (by omega)).2⟩, by rw [List.length_map, List.length_range]; omega⟩
  have hj' : j < len := by simpa using hj
  have := (hx j (by omega)).1
  rw [add_none, (hq j (by omega)).1] at this
  simpa using this

/-- A slice that holds these rows, qs the reference has them. -/
def RIn (w : World) (v : Value) (l : List (SRow Int)) : Prop :=
  ∃ ao cap, v = .slice ao l.length cap ∧ ∀ j (h : j < l.length), ∃ g, ao = some ⟨g, 0, none⟩ ∧ g < w.heap.size ∧
    w.cell? ⟨g, j * 3, none⟩ = some (.int .i64 l[j].f) ∧ w.cell? ⟨g, j * 3 + 1, none⟩ = some (.int .i64 l[j].t) ∧ w.cell? ⟨g, j * 3 + 2, none⟩ = some (.int .i64 l[j].v)

theorem RIn.step {w w' : World} {v : Value} {l : List (SRow Int)} (h : RIn w v l) (hb : Below w.heap.size w w') : RIn w' v l := by
  obtain ⟨ao, cap, e, hc⟩ := h
  refine ⟨ao, cap, e, fun j hj => ?_⟩
  obtain ⟨g, e2, hg, h0, h1, h2⟩ := hc j hj
  exact ⟨g, e2, by have := hb.size; omega, (hb.cell (p := ⟨g, j * 3, none⟩) hg).trans h0, (hb.cell (p := ⟨g, j * 3 + 1, none⟩) hg).trans h1, (hb.cell (p := ⟨g, j * 3 + 2, none⟩) hg).trans h2⟩
theorem RIn.drewN {w : World} {v : Value} {l : List (SRow Int)} (h : RIn w v l) (n : Nat) : RIn (w.drewN n) v l := h.step (below_drewN (Below.refl _ _) n)
theorem LIn.step {w w' : World} {v : Value} {l : List (SRow Int)} (h : LIn w v l) (hb : Below w.heap.size w w') : LIn w' v l := by
  obtain ⟨ao, cap, e, hc⟩ := h
  refine ⟨ao, cap, e, fun j hj => ?_⟩
  obtain ⟨hr, g, off, e2, hg, h0, h1, h2⟩ := hc j hj
  exact ⟨hr, g, off, e2, by have := hb.size; omega, (hb.cell (p := ⟨g, off + j * 3, none⟩) hg).trans h0, (hb.cell (p := ⟨g, off + j * 3 + 1, none⟩) hg).trans h1, (hb.cell (p := ⟨g, off + j * 3 + 2, none⟩) hg).trans h2⟩

/-! ### The two slices that the law makes -/
def vCells (x : SRow Int) : List Value := [.int .i32 x.f, .int .i32 x.t, .int .i64 x.v]
def rCells (x : SRow Int) : List Value := [.int .i64 x.f, .int .i64 x.t, .int .i64 x.v]

theorem three_at (c : SRow Int → List Value) (c0 c1 c2 : SRow Int → Value) (hc : ∀ x, c x = [c0 x, c1 x, c2 x]) : ∀ (l : List (SRow Int)) (j : Nat) (h : j < l.length), (l.flatMap c)[j * 3]? = some (c0 l[j]) ∧ (l.flatMap c)[j * 3 + 1]? = some (c1 l[j]) ∧ (l.flatMap c)[j * 3 + 2]? = some (c2 l[j])
  | [], _, h => by simp at h
  | x :: l, 0, _ => by simp [hc]
  | x :: l, j + 1, h => by
    have := three_at c c0 c1 c2 hc l j (by simpa using h)
    have e : (j + 1) * 3 = j * 3 + 1 + 1 + 1 := by omega
    have e1 : (j + 1) * 3 + 1 = j * 3 + 1 + 1 + 1 + 1 := by omega
    have e2 : (j + 1) * 3 + 2 = j * 3 + 2 + 1 + 1 + 1 := by omega
    rw [e1, e2, e]
    simpa [List.flatMap_cons, hc] using this

theorem vin_own {w : World} {B : Nat} {v : Value} {l : List (SRow Int)} (h : w.ownsRow B 43 3 v l.length (l.flatMap vCells)) : VIn w v l := by
  have hlt := h.lt
  rcases h.2 with ⟨h1, h2⟩ | ⟨g, cap, cur, rfl, h2, h3, h4, h5, h6, h7⟩
  · exact ⟨none, 0, by rw [h1, h2], fun k hk => (hlt k hk).2, fun j hj => by omega⟩
  · refine ⟨_, cap, rfl, fun k hk => (hlt k hk).2, fun j hj => ⟨g, 0, rfl, (Array.getElem?_eq_some_iff.1 h3).1, ?_⟩⟩
    obtain ⟨e0, e1, e2⟩ := three_at vCells _ _ _ (fun _ => rfl) l j hj
    rw [Nat.zero_add, h.cellAt (j * 3) (by omega), h.cellAt (j * 3 + 1) (by omega), h.cellAt (j * 3 + 2) (by omega)]
    exact ⟨e0, e1, e2⟩
theorem rin_own {w : World} {B : Nat} {v : Value} {l : List (SRow Int)} (h : w.ownsRow B 45 3 v l.length (l.flatMap rCells)) : RIn w v l := by
  rcases h.2 with ⟨h1, h2⟩ | ⟨g, cap, cur, rfl, h2, h3, h4, h5, h6, h7⟩
  · exact ⟨none, 0, by rw [h1, h2], fun j hj => by omega⟩
  · refine ⟨_, cap, rfl, fun j hj => ⟨g, rfl, (Array.getElem?_eq_some_iff.1 h3).1, ?_⟩⟩
    obtain ⟨e0, e1, e2⟩ := three_at rCells _ _ _ (fun _ => rfl) l j hj
    rw [h.cellAt (j * 3) (by omega), h.cellAt (j * 3 + 1) (by omega), h.cellAt (j * 3 + 2) (by omega)]
    exact ⟨e0, e1, e2⟩
end Go.Proofs.Ytpfnljebofgifab
