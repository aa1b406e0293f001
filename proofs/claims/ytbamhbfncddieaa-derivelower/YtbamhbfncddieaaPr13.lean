import Derived.Test.YtbamhbfncddieaaPr12
namespace Go.Proofs.Ytbamhbfncddieaa.Pr
open Go.RowKit Go.Lib

def d1 (r : Int) : Int := ((dnF allP r).getD (0, 0, 0)).1
def d2 (r : Int) : Int := ((dnF allP r).getD (0, 0, 0)).2.1
def d3 (r : Int) : Int := ((dnF allP r).getD (0, 0, 0)).2.2
def u1 (a b : Int) : Int := (upF allP (a, b)).getD 0
def u2 (a b : Int) : Bool := (upF allP (a, b)).isSome
def exq (r : Int) : Bool := exF (dnF allP r) r
def s1 (r : Int) : Bool := decide (0 < (scF allP r).getD 0)

section
variable {w : World} {p d u s : Nat}
theorem down_g (h : PW w p d u s allP 395) {r : Int} (hr : I32 r) : Calls Try.prog 97 #[.pointer (some ⟨p, 0, none⟩), .int .i32 r] w fun e w' => e = .returned (.tuple #[.int .i32 (d1 r), .int .i32 (d2 r), .int .i64 (d3 r)]) ∧ Below w.heap.size w w' := down_any h hr rfl
theorem up_g (h : PW w p d u s allP 395) {a b : Int} (ha : I32 a) (hb : I32 b) : Calls Try.prog 94 #[.pointer (some ⟨p, 0, none⟩), .int .i32 a, .int .i32 b] w fun e w' => e = .returned (.tuple #[.int .i32 (u1 a b), .bool (u2 a b)]) ∧ w' = w := up_any h ha hb rfl rfl
theorem ex_g (h : PW w p d u s allP 395) {r : Int} (hr : I32 r) : Calls Try.prog 61 #[.pointer (some ⟨p, 0, none⟩), .int .i32 r] w fun e w' => e = .returned (.bool (exq r)) ∧ w' = w := ex_any h hr
end

theorem d_bd (r : Int) : I32 (d1 r) ∧ I32 (d2 r) ∧ 0 ≤ d3 r ∧ d3 r ≤ 2 := by
  unfold d1 d2 d3
  cases hd : dnF allP r with
  | none => exact ⟨⟨by decide, by decide⟩, ⟨by decide, by decide⟩, by decide, by decide⟩
  | some v =>
    obtain ⟨R, hR, _, rfl⟩ := dn_mem allP r v hd
    have hb := all_bd R hR
    refine ⟨hb.2.1, hb.2.2, ?_⟩
    show 0 ≤ (valP R).2.2 ∧ (valP R).2.2 ≤ 2
    unfold valP
    simp only
    split <;> decide
theorem u_bd (a b : Int) : I32 (u1 a b) := by
  unfold u1
  cases hu : upF allP (a, b) with
  | none => exact ⟨by decide, by decide⟩
  | some z =>
    obtain ⟨R, hR, _, _, rfl⟩ := up_mem allP _ z hu
    exact (all_bd R hR).1
theorem bk1 (r : Int) (h3 : d3 r = 2) (he : exq r = false) : u1 (d1 r) (d2 r) = r ∧ u2 (d1 r) (d2 r) = true := by
  unfold d3 at h3
  unfold d1 d2 u1 u2
  unfold exq exF at he
  rw [Bool.or_eq_false_iff] at he
  cases hd : dnF allP r with
  | none => rw [hd] at h3; simp at h3
  | some v =>
    obtain ⟨v1, v2, v3⟩ := v
    rw [hd] at h3
    simp only [Option.getD_some] at h3 ⊢
    subst h3
    rw [back1 r v1 v2 hd he.2]
    exact ⟨rfl, rfl⟩
theorem bk2 (a b : Int) (h : u2 a b = true) : d3 (u1 a b) = 2 ∧ d1 (u1 a b) = a ∧ d2 (u1 a b) = b ∧ exq (u1 a b) = false := by
  unfold u2 at h
  unfold d1 d2 d3 exq exF u1
  cases hu : upF allP (a, b) with
  | none => rw [hu] at h; cases h
  | some z =>
    have hb := back2 a b z hu
    simp only [Option.getD_some]
    rw [hb.1, hb.2]
    exact ⟨rfl, rfl, rfl, rfl⟩
end Go.Proofs.Ytbamhbfncddieaa.Pr
