import Derived.Test.YtoknfhjclpdihaaPu27
namespace Go.Proofs.Ytoknfhjclpdihaa
namespace Pu
open Go.RowKit Od

theorem Ro.sl {W : World} {g : Nat} {O : List Int} (h : Ro W g O) : Sl .i32 W (.slice (some ⟨g, 0, none⟩) O.length O.length) O :=
  ⟨_, _, rfl, Nat.le_refl _, fun e => (by cases e), fun j hj => ⟨g, 0, rfl, h.lt, by rw [Nat.zero_add]; exact h.cell j _ (List.getElem?_eq_getElem hj)⟩⟩
theorem aw_ro1 (w : World) : Ro (w.alloc (.cells #[.int .i32 252] 21)) w.heap.size [252] := heap_new w _
theorem aw_ro2 (w : World) : Ro (w.alloc (.cells #[.int .i32 98, .int .i32 252, .int .i32 99, .int .i32 104, .int .i32 101, .int .i32 114] 21)) w.heap.size [98, 252, 99, 104, 101, 114] := heap_new w _
set_option maxRecDepth 100000 in
set_option maxHeartbeats 4000000 in
theorem awake11_any (w : World) : Calls Try.prog 7 #[] w fun e w' => e = .returned (.bool true) ∧ Below w.heap.size w w' := by
  have HE1 : Hid (∀ W : World, Calls Try.prog 8 #[.slice (some ⟨W.heap.size, 0, none⟩) 1 1] (W.alloc (.cells #[.int .i32 252] 21)) fun e w' => e = .returned (.tuple #[.string ⟨#[116, 100, 97]⟩, .int .i64 0]) ∧ Below W.heap.size W w') := fun W => by
    have h := enc_ok (aw_ro1 W).sl (by decide) (by intro z hz; simp at hz; omega) (by rw [aw_e1]; intro x hx; simp at hx; omega)
    rw [aw_e1, aw_b1] at h
    refine h.mono ?_
    rintro e w' ⟨he, hb⟩
    exact ⟨he, ((Below.refl _ _).alloc (Nat.le_refl _) _).trans (hb.mono (by simp))⟩
  have HE2 : Hid (∀ W : World, Calls Try.prog 8 #[.slice (some ⟨W.heap.size, 0, none⟩) 6 6] (W.alloc (.cells #[.int .i32 98, .int .i32 252, .int .i32 99, .int .i32 104, .int .i32 101, .int .i32 114] 21)) fun e w' => e = .returned (.tuple #[.string ⟨#[98, 99, 104, 101, 114, 45, 107, 118, 97]⟩, .int .i64 0]) ∧ Below W.heap.size W w') := fun W => by
    have h := enc_ok (aw_ro2 W).sl (by decide) (by intro z hz; simp at hz; omega) (by rw [aw_e2]; intro x hx; simp at hx; omega)
    rw [aw_e2, aw_b2] at h
    refine h.mono ?_
    rintro e w' ⟨he, hb⟩
    exact ⟨he, ((Below.refl _ _).alloc (Nat.le_refl _) _).trans (hb.mono (by simp))⟩
  have HD : Hid (∀ W : World, Calls Try.prog 11 #[.string ⟨#[98, 99, 104, 101, 114, 45, 107, 118, 97]⟩] W fun e w' => ∃ g, e = .returned (.tuple #[.slice (some ⟨g, 0, none⟩) 6 6, .int .i64 0]) ∧ w'.cell? ⟨g, 1, none⟩ = some (.int .i32 252) ∧ Below W.heap.size W w') := fun W => by
    refine (dec_small kva (by decide) W).mono ?_
    rintro e w' ⟨⟨i, hy, hv⟩, hb⟩
    rw [aw_s] at hy hv
    have := aw_h hy
    subst this
    rw [aw_d] at hv
    obtain ⟨g, rfl, hg, hro⟩ := hv
    exact ⟨g, rfl, hro.cell 1 252 rfl, hb⟩
  go_enter Try.func7, Try.ntmps7
  go_wp2_with fail
  refine (HE1.out _).mono ?_
  rintro e w1 ⟨rfl, hb1⟩
  have B1 := hid hb1
  clear hb1
  go_wp2_with fail
  refine (HE2.out _).mono ?_
  rintro e w2 ⟨rfl, hb2⟩
  have B2 := hid (B1.out.trans (hb2.mono B1.out.size))
  clear hb2
  go_wp2_with fail
  refine (HD.out _).mono ?_
  rintro e w3 ⟨g, rfl, c1, hb3⟩
  have B3 := hid (B2.out.trans (hb3.mono B2.out.size))
  clear hb3
  go_wp2_with fail
  go_ret
  exact ⟨rfl, B3.out⟩
end Pu
end Go.Proofs.Ytoknfhjclpdihaa
