import Derived.Test.YtpegpagdhaijjaaOrd14
namespace Go.Proofs.Ytpegpagdhaijjaa
namespace Od
open Go.RowKit

/-- Whether a run is in order. -/
theorem SdI.run {w : World} {b : Nat} {zs : List Int} {ao : Option Addr} {cap o2 o3 o4 pl pb : Nat} {pre : List (Nat × Nat)} {A : World} (hB : Bk w b) (hn : zs.length ≤ 1000000) (hS : SlP .i32 w ao cap zs) (h : SdI w b zs ao cap o2 o3 o4 pl pb pre A) {f t : Nat} (hx : NextR clsP zs pre (f, t)) :
    ∃ g off, ao = some ⟨g, off, none⟩ ∧ ∀ A' cb, A' = A.alloc (.cells #[.pointer (some ⟨b, 0, none⟩)] 23) → cb = A.heap.size → ∀ cap', t - f ≤ cap' → Calls Try.prog 42 #[.slice (some ⟨g, off + f, none⟩) (t - f) cap', .func (.func 67) #[] #[.pointer (some ⟨cb, 0, none⟩)]] A' fun e w' => ∃ r, e = .returned (.bool r) ∧ (∀ C, KeepsFrom C A w') ∧ (r = true → SdI w b zs ao cap o2 o3 o4 pl pb (pre ++ [(f, t)]) w') ∧ (r = false → SdX w zs o4 (pre ++ [(f, t)]) w') := by
  have q1 : f < t := hx.2.1
  have q2 : t ≤ zs.length := hx.2.2.1
  obtain ⟨g, off, e0, hg, _⟩ := hS.at_ f (by omega)
  refine ⟨g, off, e0, fun A' cb e1 e2 cap' hc' => ?_⟩
  have hbA : Below A.heap.size A A' := by rw [e1]; exact (Below.refl _ _).alloc (Nat.le_refl _) _
  have hbx : Bx A' cb (.pointer (some ⟨b, 0, none⟩)) 23 := by rw [e1, e2]; exact Bx.new _ _ _
  have hbw : Below w.heap.size w A' := h.bel.trans (hbA.mono h.bel.size)
  have hlX : ((zs.take t).drop f).length = t - f := by rw [List.length_drop, List.length_take]; omega
  have hsl : SlP .i32 A' (some ⟨g, off + f, none⟩) cap' ((zs.take t).drop f) := by
    refine ⟨by omega, fun e => (by cases e), fun j hj => ?_⟩
    obtain ⟨g', off', e, hg', hc⟩ := hS.at_ (f + j) (by omega)
    rw [e0] at e
    have e3 : g' = g ∧ off' = off := by
      have := Option.some.inj e
      injection this with a1 a2 _
      exact ⟨a1.symm, a2.symm⟩
    obtain ⟨rfl, rfl⟩ := e3
    have hs := hbw.size
    refine ⟨g', off' + f, rfl, Nat.lt_of_lt_of_le hg' hs, ?_⟩
    have e4 : ((zs.take t).drop f)[j] = zs[f + j]'(by omega) := by rw [List.getElem_drop, List.getElem_take]
    rw [e4, Nat.add_assoc, ← hc]
    exact hbw.cell (p := ⟨g', off' + (f + j), none⟩) hg'
  have hC : CmpB clsP (fun W => Below w.heap.size w W ∧ Bx W cb (.pointer (some ⟨b, 0, none⟩)) 23) #[.pointer (some ⟨cb, 0, none⟩)] := ⟨fun W x y hW => byc1_any (hB.step hW.1) hW.2 x y, fun W W' hW ha => ⟨hW.1.trans (ha.mono hW.1.size), hW.2.step ha⟩⟩
  refine (isf_any A' (some ⟨g, off + f, none⟩) (t - f) cap' hC _ hlX hsl ⟨hbw, hbx⟩ (by omega)).mono ?_
  rintro e W4 ⟨⟨r, he, hr⟩, hb4⟩
  have hb5 : Below A.heap.size A W4 := hbA.trans (hb4.mono hbA.size)
  have h1 := h.keep (N := w.heap.size) (Kc.of_below hb5) (Nat.le_refl _)
  have h2 := next_ord hx h.ord
  exact ⟨r, he, fun C => ⟨hb5.size, fun k o _ hk _ => (hb5.block k (Array.getElem?_eq_some_iff.1 hk).1).trans hk⟩, fun hh => ⟨h1.bel, h1.b2, h1.b3, h1.b4, h1.bl, h1.bb, h2.1 (hr.1 hh)⟩, fun hh => ⟨h1.bel, h1.b4, h2.2 (fun hN => by rw [hr.2 hN] at hh; cases hh)⟩⟩
end Od
end Go.Proofs.Ytpegpagdhaijjaa
