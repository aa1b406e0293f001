import Derived.Test.YtbamhbfncddieaaUcd7
namespace Go.Proofs.Ytbamhbfncddieaa.Uc
open Go.RowKit

/-- The cells of a row. -/
def tr7 (x : SRow Tr) : List Value := [.int .i32 x.f, .int .i32 x.t, .int .i64 x.v.a, .int .i64 x.v.b, .int .i64 x.v.c, .int .i64 x.v.d, .int .i64 x.v.e]

theorem tr7_len (l : List (SRow Tr)) : (l.flatMap tr7).length = l.length * 7 := by
  induction l with
  | nil => rfl
  | cons x l ih => simp only [List.flatMap_cons, List.length_append, ih, List.length_cons, tr7, List.length_nil]; omega

theorem tr7_at : ∀ (l : List (SRow Tr)) (j i : Nat) (h : j < l.length), i < 7 → (l.flatMap tr7)[j * 7 + i]? = (tr7 l[j])[i]?
  | [], _, _, h, _ => by simp at h
  | x :: l, 0, i, _, hi => by
    simp only [List.flatMap_cons, Nat.zero_mul, Nat.zero_add, List.getElem_cons_zero]
    rw [List.getElem?_append_left (by simp [tr7]; omega)]
  | x :: l, j + 1, i, h, hi => by
    have := tr7_at l j i (by simpa using h) hi
    rw [List.flatMap_cons, List.getElem?_append_right (by simp [tr7]; omega)]
    rw [show (j + 1) * 7 + i - (tr7 x).length = j * 7 + i by simp [tr7]; omega, this]
    rfl

/-- An owned slice of rows is one that Build reads. -/
theorem vin_of_own {w : World} {B : Nat} {v : Value} {l : List (SRow Tr)} (h : w.ownsRow B 94 7 v l.length (l.flatMap tr7)) : VIn w v l := by
  have hlt := fun g hg => (h.lt g hg).2
  rcases h.2 with ⟨h1, h2⟩ | ⟨g, cap, cur, rfl, h2, h3, h4, h5, h6, h7⟩
  · have := List.eq_nil_of_length_eq_zero h2
    subst this
    exact ⟨none, 0, h1, hlt, fun j hj => by simp at hj⟩
  · refine ⟨some ⟨g, 0, none⟩, cap, rfl, hlt, fun j hj => ⟨g, 0, rfl, (Array.getElem?_eq_some_iff.1 h3).1, ?_⟩⟩
    have c := fun i (hi : i < 7) => (h.cellAt (j * 7 + i) (by omega)).trans (tr7_at l j i hj hi)
    rw [Nat.zero_add]
    exact ⟨c 0 (by omega), c 1 (by omega), c 2 (by omega), c 3 (by omega), c 4 (by omega), c 5 (by omega), c 6 (by omega)⟩

theorem Try.info_row7 : (Try.prog.info? 94).map (fun i => (i.zero, i.size, i.bytes)) = some (some (.agg #[.int .i32 0, .int .i32 0, .int .i64 0, .int .i64 0, .int .i64 0, .int .i64 0, .int .i64 0]), 7, 48) := by kernel_rfl

theorem step_row7 {ops : Array Oper} {o : Oper} {a : Act} {K : Act → World → Prop} {Q : Exit → Act → World → Prop} {E : Prop} (hgd : o.guard = none) (s x : Operand)
    (ho : o.op = .call { callee := .builtin .append, args := #[s, x], argTypes := #[50, 50] }) (W : World) (B n : Nat) (v : Value) (xs : List Value) (r : SRow Tr) (hs : a.eval s = v) (hx : a.eval x = .slice (some ⟨W.heap.size, 0, none⟩) 1 1)
    (hown : W.ownsRow B 94 7 v n xs) (hn : n ≤ 5000) (hB : B ≤ W.heap.size)
    (h : ∀ g cap w', w'.ownsRow B 94 7 (.slice (some ⟨g, 0, none⟩) (n + 1) cap) (n + 1) (xs ++ tr7 r) → (W.alloc (.cells (tr7 r).toArray 94)).grownBy w' v.ownBlock → (v.ownBlock = some g ∨ g = W.heap.size + 1) → K (a.put o.dst (.slice (some ⟨g, 0, none⟩) (n + 1) cap)) w') :
    if Region.wanted o (yielded ops a.tmps) = true then Oper.wp Try.prog o a (W.alloc (.cells (tr7 r).toArray 94)) K Q else E := by
  obtain ⟨i0, hi, hz0, hz1, hz2⟩ := info_parts Try.info_row7
  refine step_append_lies (P := Try.prog) _ hgd s x 50 ho B 94 i0 (.agg #[.int .i32 0, .int .i32 0, .int .i64 0, .int .i64 0, .int .i64 0, .int .i64 0, .int .i64 0]) 7 48 Try.underlying50 hi hz0 hz1 hz2 rfl (by decide) v n xs hs (hown.alloc _) ⟨W.heap.size, 0, none⟩ 1 1 (tr7 r) hx rfl
    (World.news_of_block (heap_alloc_new W _)) (fun u hu => by simp [tr7] at hu; rcases hu with rfl | rfl | rfl | rfl | rfl | rfl | rfl <;> rfl) (by omega) (by unfold maxLen; omega) (by omega) (by simp; omega) (W.heap.size + 1) (by simp) (fun g cap w' h1 h2 h3 _ => h g cap w' h1 h2 h3)
end Go.Proofs.Ytbamhbfncddieaa.Uc
