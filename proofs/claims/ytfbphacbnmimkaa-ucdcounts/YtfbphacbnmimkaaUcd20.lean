import Derived.Test.YtfbphacbnmimkaaUcd19
namespace Go.Proofs.Ytfbphacbnmimkaa
open Go.RowKit

def endsB (x : Ln) : Bool := decide (0 ≤ x.1 ∧ x.1 ≤ x.2.1 ∧ x.2.1 ≤ 1114111)
set_option maxRecDepth 1000000 in
theorem all_endsB : allT.all endsB = true := by kernel_rfl
theorem all_ends : ∀ x ∈ allT, Ends x := fun x hx => by
  have h := List.all_eq_true.1 all_endsB x hx
  unfold endsB at h
  have h2 := of_decide_eq_true h
  exact h2

theorem rcount_any (w : World) (kd : Int) : Calls Try.prog 17 #[.int .i64 kd] w fun e w' => e = .returned (.int .i64 (rcntV allT kd)) ∧ Below w.heap.size w w' :=
  rcount_T all_len.1 all_len.2 all_ends w kd rall_any

set_option maxRecDepth 1000000 in
theorem cnt_same : (List.range 12).all (fun k => cntP (k : Int) 0 bookL == rcntV allT (k : Int)) = true := by kernel_rfl
theorem cnt_eq (k : Int) (h0 : 0 ≤ k) (h1 : k ≤ 11) : cntP k 0 bookL = rcntV allT k := by
  have h := List.all_eq_true.1 cnt_same k.toNat (List.mem_range.2 (by omega))
  rw [show ((k.toNat : Nat) : Int) = k by omega] at h
  exact eq_of_beq h

theorem cnt_none (k : Int) : ∀ (L : List (SRow Tr)) (n : Int), (∀ x ∈ L, x.v.a ≠ k) → cntP k n L = n
  | [], _, _ => rfl
  | x :: L, n, h => by
    rw [cntP, if_neg (h x (List.mem_cons_self ..))]
    exact cnt_none k L n (fun y hy => h y (List.mem_cons_of_mem _ hy))
set_option maxRecDepth 1000000 in
theorem book_kindsB : bookL.all (fun x => decide (0 ≤ x.v.a ∧ x.v.a ≤ 11)) = true := by kernel_rfl
theorem book_kinds : ∀ x ∈ bookL, 0 ≤ x.v.a ∧ x.v.a ≤ 11 := fun x hx => of_decide_eq_true (List.all_eq_true.1 book_kindsB x hx)
theorem cnt_out (k : Int) (h : k < 0 ∨ 11 < k) : cntP k 0 bookL = 0 := cnt_none k bookL 0 (fun x hx e => by have := book_kinds x hx; omega)
end Go.Proofs.Ytfbphacbnmimkaa
