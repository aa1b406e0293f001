import Derived.Test.YtoknfhjclpdihaaPu7
namespace Go.Proofs.Ytoknfhjclpdihaa
namespace Pu
open Go.RowKit Od

/-- A function that asks something of a rune. -/
structure Prd (p : Int → Bool) (G : World → Prop) (g : Nat) (pa : Array Value) : Prop where
  call : ∀ W x, True → G W → Calls Try.prog g (pa ++ #[.int .i32 x]) W fun e w' => e = .returned (.bool (p x)) ∧ Below W.heap.size W w'
  keep : ∀ W W', G W → Below W.heap.size W W' → G W'
/-- The first of some; -1. -/
def idxQ (p : Int → Bool) : Nat → List Int → Int
  | _, [] => -1
  | k, x :: l => if p x = true then k else idxQ p (k + 1) l
theorem idxQ_iff (p : Int → Bool) : ∀ (l : List Int) (k : Nat), (0 ≤ idxQ p k l) ↔ l.any p = true
  | [], _ => by simp [idxQ]
  | x :: l, k => by
    simp only [idxQ, List.any_cons]
    by_cases h : p x = true
    · rw [if_pos h, h]; simp
    · rw [if_neg h, idxQ_iff p l (k + 1)]
      simp at h
      simp [h]

set_option maxRecDepth 100000 in
set_option maxHeartbeats 2000000 in
theorem idxB_any {G : World → Prop} {p : Int → Bool} (w : World) (ao : Option Addr) (n cap : Nat) (hC : Prd p G 22 #[]) (X : List Int) (hX : X.length = n) (hI : ∀ x ∈ X, True) (hS : SlP .i32 w ao cap X) (hG : G w) (hn : n ≤ 1000000) :
    Calls Try.prog 34 #[.slice ao n cap, .func (.func 22) #[] #[]] w fun e w' => e = .returned (.int .i64 (idxQ p 0 X)) ∧ Below w.heap.size w w' := by
  have HC := hid hC
  have HX := hid hX
  have HI := hid hI
  have HS := hid hS
  have H0 : Hid (G w ∧ Ok w.heap.size w w) := ⟨hG, Ok.start w⟩
  clear hC hX hS hG hI
  go_enter Try.func34, Try.ntmps34
  go_wp2_with fail
  go_loopg [8] n (fun gg vi wr => ∃ k : Nat, vi = .int .i64 k ∧ k ≤ n ∧ gg = n - k ∧ Hid (idxQ p 0 X = idxQ p k (X.drop k) ∧ G wr ∧ Ok w.heap.size w wr))
  case atStart => exact ⟨0, rfl, Nat.zero_le _, rfl, rfl, H0.out⟩
  case round =>
    obtain ⟨k, rfl, hk, hg, H⟩ := hrel
    have HG := hid hg
    clear hg H0
    by_cases hlt : k < n
    · have hlx : k < X.length := by have := HX.out; omega
      obtain ⟨b, off, rfl, hb, c1⟩ := HS.out.at_ k hlx
      have d1 := (H.out.2.2.1.cell (p := ⟨b, off + k, none⟩) hb).trans c1
      have HE : Hid (idxQ p 0 X = if p X[k] = true then (k : Int) else idxQ p (k + 1) (X.drop (k + 1))) := by
        show _ = _
        rw [H.out.1, List.drop_eq_getElem_cons hlx]; rfl
      have HV : Hid (Calls Try.prog 22 #[.int .i32 X[k]] wr fun e w' => e = .returned (.bool (p X[k])) ∧ Below wr.heap.size wr w') := HC.out.call wr X[k] (HI.out _ (List.getElem_mem hlx)) H.out.2.1
      clear c1
      generalize X[k] = x at *
      have z1 : (k : Int) < (n : Int) := by omega
      by_cases hp : p x = true
      · have HR : Hid (idxQ p 0 X = (k : Int)) := by show _ = _; rw [HE.out, if_pos hp]
        rw [hp] at HV
        clear hp HE
        go_wp2_with fail
        refine HV.out.mono ?_
        rintro e w' ⟨rfl, hb'⟩
        have hok := hid (H.out.2.2.step hb')
        clear hb'
        go_wp2_with fail
        go_ret
        exact ⟨ret_int HR.out.symm, hok.out.1⟩
      · have HR : Hid (idxQ p 0 X = idxQ p (k + 1) (X.drop (k + 1))) := by show _ = _; rw [HE.out, if_neg hp]
        have hp2 : p x = false := by simpa using hp
        rw [hp2] at HV
        clear hp hp2 HE
        go_wp2_with fail
        refine HV.out.mono ?_
        rintro e w' ⟨rfl, hb'⟩
        have HN : Hid (G w' ∧ Ok w.heap.size w w') := ⟨HC.out.keep _ _ H.out.2.1 hb', H.out.2.2.step hb'⟩
        clear hb'
        go_wp2_with fail
        go_roundg (n - (k + 1))
        case measure => rw [HG.out]; omega
        case rel => exact ⟨k + 1, by go_num, by omega, rfl, HR.out, HN.out⟩
    · have e : X.drop k = [] := List.drop_eq_nil_of_le (by have := HX.out; omega)
      have HR : Hid (idxQ p 0 X = -1) := by show _ = _; rw [H.out.1, e]; rfl
      go_wp2_with fail
      go_ret
      exact ⟨ret_int HR.out.symm, H.out.2.2.1⟩

set_option maxHeartbeats 1000000 in
theorem contB_any {G : World → Prop} {p : Int → Bool} (w : World) (v : Value) (hC : Prd p G 22 #[]) (X : List Int) (hI : ∀ x ∈ X, True) (hS : Sl .i32 w v X) (hG : G w) (hn : X.length ≤ 1000000) :
    Calls Try.prog 21 #[v, .func (.func 22) #[] #[]] w fun e w' => e = .returned (.bool (X.any p)) ∧ Below w.heap.size w w' := by
  obtain ⟨ao, cap, rfl, hS⟩ := hS
  have HI := hid (idxB_any w ao X.length cap hC X rfl hI hS hG hn)
  have HE : Hid (X.any p = decide (0 ≤ idxQ p 0 X)) := by
    show _ = _
    rw [Bool.eq_iff_iff, decide_eq_true_eq]
    exact (idxQ_iff p X 0).symm
  clear hC hS hG hI
  generalize idxQ p 0 X = v at *
  generalize X.length = n at *
  go_enter Try.func21, Try.ntmps21
  go_wp2_with fail
  refine HI.out.mono ?_
  rintro e w' ⟨rfl, hb⟩
  go_wp2_with fail
  go_ret
  refine ⟨ret_bool ?_, hb⟩
  rw [HE.out]
  try rfl

/-- Is it no code point? -/
def byB (r : Int) : Bool := decide (r < 0 ∨ 1114111 < r)
set_option maxHeartbeats 1000000 in
theorem beyond_any (r : Int) (w : World) : Calls Try.prog 22 #[.int .i32 r] w fun e w' => e = .returned (.bool (byB r)) ∧ w' = w := by
  by_cases h1 : r < 0
  · have HE : Hid (byB r = true) := decide_eq_true (.inl h1)
    go_enter Try.func22, Try.ntmps22
    go_wp2_with fail
    go_ret
    exact ⟨ret_bool HE.out.symm, rfl⟩
  · by_cases h2 : 1114111 < r
    · have HE : Hid (byB r = true) := decide_eq_true (.inr h2)
      go_enter Try.func22, Try.ntmps22
      go_wp2_with fail
      go_ret
      exact ⟨ret_bool HE.out.symm, rfl⟩
    · have HE : Hid (byB r = false) := decide_eq_false (by omega)
      go_enter Try.func22, Try.ntmps22
      go_wp2_with fail
      go_ret
      exact ⟨ret_bool HE.out.symm, rfl⟩
theorem contby_any (w : World) (v : Value) (X : List Int) (hS : Sl .i32 w v X) (hn : X.length ≤ 1000000) :
    Calls Try.prog 21 #[v, .func (.func 22) #[] #[]] w fun e w' => e = .returned (.bool (X.any byB)) ∧ Below w.heap.size w w' :=
  contB_any (G := fun _ => True) w v ⟨fun W x _ _ => (beyond_any x W).mono (fun e w' h => ⟨h.1, by rw [h.2]; exact Below.refl _ _⟩), fun _ _ _ _ => trivial⟩ X (fun _ _ => trivial) hS trivial hn
end Pu
end Go.Proofs.Ytoknfhjclpdihaa
