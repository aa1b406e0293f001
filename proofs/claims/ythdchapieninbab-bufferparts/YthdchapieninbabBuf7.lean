import Derived.Test.YthdchapieninbabBuf6
import Derived.Deep.Slices
import Derived.Deep.Strs
import Derived.ChangeSame
namespace Go.Proofs.Ythdchapieninbab
open Go.RowKit Go.ChangeShapes Go.WideShapes

theorem cell_none {w : World} {x : Addr} {v : Value} (h : w.cell? x = some v) : ∃ b off, x = ⟨b, off, none⟩ ∧ b < w.heap.size := by
  obtain ⟨b, off, spot⟩ := x
  have hs : spot = none := World.cell?_spot h
  subst hs
  exact ⟨b, off, rfl, World.block_lt_of_cell? w _ h⟩
theorem add_none (b off j : Nat) : (⟨b, off, none⟩ : Addr).add j = ⟨b, off + j, none⟩ := by
  unfold Addr.add
  by_cases h : j = 0
  · subst h; rfl
  · rw [if_neg h]

/-- A slice that holds these texts. -/
def StrSl (w : World) (v : Value) (ss : List ByteArray) : Prop :=
  (ss = [] ∧ ∃ a cap, v = .slice a 0 cap) ∨ ∃ b off cap, v = .slice (some ⟨b, off, none⟩) ss.length cap ∧ b < w.heap.size ∧ ∀ j (h : j < ss.length), w.cell? ⟨b, off + j, none⟩ = some (.string ss[j]) ∧ ss[j].size ≤ maxLen

theorem StrSl.step {w w' : World} {v : Value} {ss : List ByteArray} (h : StrSl w v ss) (hb : Below w.heap.size w w') : StrSl w' v ss := by
  rcases h with h | ⟨b, off, cap, e, hlt, hc⟩
  · exact .inl h
  · exact .inr ⟨b, off, cap, e, by have := hb.size; omega, fun j hj => ⟨by rw [hb.cell (p := ⟨b, off + j, none⟩) hlt]; exact (hc j hj).1, (hc j hj).2⟩⟩

theorem open_strsl {H : Type} {enc : TypeId × Value → H} {P : Program} {w : World} {base : Nat} {spare : Nat → Bool} {held : Bool} {t e : TypeId} (ht : P.underlying t = some (.slice e)) (he : P.underlying e = some .string) (hc : P.cellsOf e = 1) {cs : List Value} {v : Value} (hcs : cs = [v]) {d : DataW H × List MemPlace}
    (h : ∃ fuel, DataW.trod enc P w base spare held fuel t cs = some d) : ∃ ss, StrSl w v ss := by
  obtain ⟨fuel, h⟩ := h
  subst hcs
  rcases Deep.open_strs ht he hc h with ⟨h1, _⟩ | ⟨a, len, cap, m, Sx, h1, hb, hl, hm, hmm, _, hx⟩
  · simp at h1; exact ⟨[], .inl ⟨rfl, none, 0, h1⟩⟩
  · simp at h1; subst h1
    by_cases h0 : len = 0
    · subst h0; exact ⟨[], .inl ⟨rfl, _, _, rfl⟩⟩
    · have hlm : len ≤ m := by rw [hmm]; split <;> omega
      obtain ⟨b, off, e1, hlt⟩ := cell_none (hx 0 (by omega)).1
      have e2 : a = ⟨b, off, none⟩ := by simpa [Addr.add] using e1
      subst e2
      refine ⟨(List.range len).map Sx, .inr ⟨b, off, cap, by simp, hlt, fun j hj => ?_⟩⟩
      have hj' : j < len := by simpa using hj
      have := hx j (by omega)
      rw [add_none] at this
      simpa using this

end Go.Proofs.Ythdchapieninbab
