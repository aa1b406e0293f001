import Derived.Test.YtbamhbfncddieaaRul1
import Derived.Deep.RegionHeld3
namespace Go.Proofs.Ytbamhbfncddieaa
namespace Ru
open Go.RowKit Od

/-- What the book says of a code point's script, and how it joins. -/
def scP (r : Int) : Int := (Uc.getV Uc.zTr Uc.bookL r).c
def jnP (r : Int) : Int := (Uc.getV Uc.zTr Uc.bookL r).e
theorem scr_any {w : World} {b : Nat} (h : Bk w b) (r : Int) : Calls Try.prog 84 #[.pointer (some ⟨b, 0, none⟩), .int .i32 r] w fun e w' => e = .returned (.int .i64 (scP r)) ∧ Below w.heap.size w w' := by
  obtain ⟨p, rv, hb⟩ := h
  exact Uc.script_any hb r
theorem joi_any {w : World} {b : Nat} (h : Bk w b) (r : Int) : Calls Try.prog 104 #[.pointer (some ⟨b, 0, none⟩), .int .i32 r] w fun e w' => e = .returned (.int .i64 (jnP r)) ∧ Below w.heap.size w w' := by
  obtain ⟨p, rv, hb⟩ := h
  exact Uc.join_any hb r
/-- A view's book. -/
structure Vb (w : World) (v b : Nat) : Prop where
  bk : Bk w b
  lt : v < w.heap.size
  c0 : w.cell? ⟨v, 0, none⟩ = some (.pointer (some ⟨b, 0, none⟩))
theorem Vb.step {w w' : World} {v b : Nat} (h : Vb w v b) (hb : Below w.heap.size w w') : Vb w' v b := ⟨h.bk.step hb, Nat.lt_of_lt_of_le h.lt hb.size, (hb.cell (p := ⟨v, 0, none⟩) h.lt).trans h.c0⟩
/-- What a question about scripts, or joining, holds: boxes of the view and of what is asked for. -/
structure Qs (w : World) (v b pv po g : Nat) (l : List Int) : Prop where
  vb : Vb w v b
  bv : Bx w pv (.pointer (some ⟨v, 0, none⟩)) 87
  bo : Bx w po (.slice (some ⟨g, 0, none⟩) l.length l.length) 37
  ro : w.heap[g]? = some (.cells (ivs .i64 l).toArray 3)
theorem Qs.step {w w' : World} {v b pv po g : Nat} {l : List Int} (h : Qs w v b pv po g l) (hb : Below w.heap.size w w') : Qs w' v b pv po g l :=
  ⟨h.vb.step hb, h.bv.step hb, h.bo.step hb, (hb.block g (Array.getElem?_eq_some_iff.1 h.ro).1).trans h.ro⟩
theorem ro_sl {w : World} {g : Nat} {l : List Int} (h : w.heap[g]? = some (.cells (ivs .i64 l).toArray 3)) : Sl .i64 w (.slice (some ⟨g, 0, none⟩) l.length l.length) l := by
  refine ⟨some ⟨g, 0, none⟩, l.length, rfl, Nat.le_refl _, fun e => (by cases e), fun j hj => ⟨g, 0, rfl, (Array.getElem?_eq_some_iff.1 h).1, ?_⟩⟩
  unfold World.cell?
  rw [h]
  simp [ivs, hj]
theorem Qs.cells {w : World} {v b pv po g : Nat} {l : List Int} (h : Qs w v b pv po g l) : w.cell? ⟨pv, 0, none⟩ = some (.pointer (some ⟨v, 0, none⟩)) ∧ w.cell? ⟨po, 0, none⟩ = some (.slice (some ⟨g, 0, none⟩) l.length l.length) ∧ w.cell? ⟨v, 0, none⟩ = some (.pointer (some ⟨b, 0, none⟩)) := ⟨h.bv.cell, h.bo.cell, h.vb.c0⟩
set_option maxRecDepth 100000 in
set_option maxHeartbeats 4000000 in
theorem scr1_any {W : World} {v b pv po g : Nat} {l : List Int} (hQ : Qs W v b pv po g l) (hl : l.length ≤ 1000) (x : Int) :
    Calls Try.prog 82 #[.int .i32 x, .pointer (some ⟨po, 0, none⟩), .pointer (some ⟨pv, 0, none⟩)] W fun e w' => e = .returned (.bool (decide (scP x ∈ l))) ∧ Below W.heap.size W w' := by
  have HD : Hid (Ok W.heap.size W W.drew ∧ Qs W.drew v b pv po g l) := ⟨(Ok.start W).step ((Below.refl _ _).drew), hQ.step ((Below.refl _ _).drew)⟩
  have HC := hr (fun w (h : Vb w v b) => scr_any h.bk x)
  have HM := hr (fun (w : World) (y : Int) (h : Qs w v b pv po g l) => contains_any (ro_sl h.ro) (by omega) y)
  have hstep : Hid (∀ A B, (Ok W.heap.size W A ∧ Qs A v b pv po g l) → Below A.heap.size A B → (Ok W.heap.size W B ∧ Qs B v b pv po g l)) := fun A B h hb => ⟨h.1.step hb, h.2.step hb⟩
  have H0 := hr hQ
  clear hQ hl
  go_enter Try.func82, Try.ntmps82
  go_wp2_with fail
  go_region_held3 (fun w' => w'.cell? ⟨pv, 0, none⟩ = some (.pointer (some ⟨v, 0, none⟩)) ∧ w'.cell? ⟨po, 0, none⟩ = some (.slice (some ⟨g, 0, none⟩) l.length l.length) ∧ w'.cell? ⟨v, 0, none⟩ = some (.pointer (some ⟨b, 0, none⟩)))
    (first | exact HD.out.2.cells | exact H0.out.cells)
    (first | (go_at_call 84; refine (HC.out _ HD.out.2.vb).mono ?_; rintro e w' ⟨rfl, hb'⟩; replace HD := hr (hstep.out _ _ HD.out hb'); clear hb') | (go_at_call 83; refine (HM.out _ _ HD.out.2).mono ?_; rintro e w' ⟨rfl, rfl⟩))
  all_goals go_wp2_with fail
  all_goals go_ret
  all_goals exact ⟨rfl, HD.out.1.1⟩
end Ru
end Go.Proofs.Ytbamhbfncddieaa
