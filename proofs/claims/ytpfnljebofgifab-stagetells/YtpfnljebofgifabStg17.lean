import Derived.Test.YtpfnljebofgifabStg16
import Derived.Deep.RegionLawGrows
namespace Go.Proofs.Ytpfnljebofgifab
open Go.RowKit

def i32s (l : List Int) : List Value := l.map (.int .i32 ·)
theorem i32s_len (l : List Int) : (i32s l).length = l.length := by simp [i32s]

theorem ask_own {w : World} {B : Nat} {v : Value} {l : List Int} (h : w.ownsRow B 21 1 v l.length (i32s l)) : AskSl w v l := by
  rcases h.2 with ⟨h1, h2⟩ | ⟨g, cap, cur, rfl, h2, h3, h4, h5, h6, h7⟩
  · exact ⟨none, 0, by rw [h1, h2], fun _ => rfl, by omega, fun j hj => by omega⟩
  · refine ⟨_, cap, rfl, fun e => by simp at e, h4, fun j hj => ⟨g, 0, rfl, (Array.getElem?_eq_some_iff.1 h3).1, ?_⟩⟩
    rw [Nat.zero_add, h.cellAt j (by omega)]
    simp [i32s, hj]

theorem ask_olds {w : World} {ao : Option Addr} {l : List Int} (hc : ∀ j (h : j < l.length), ∃ g off, ao = some ⟨g, off, none⟩ ∧ g < w.heap.size ∧ w.cell? ⟨g, off + j, none⟩ = some (.int .i32 l[j])) : ∀ b, ao = some b → ∀ j u, (i32s l)[j]? = some u → w.cell? (b.add j) = some u := by
  rintro b rfl j u hu
  have hj : j < l.length := by
    have := (List.getElem?_eq_some_iff.1 hu).1
    rwa [i32s_len] at this
  obtain ⟨g, off, e, _, h⟩ := hc j hj
  simp at e; subst e
  rw [add_none, h]
  simp [i32s, hj] at hu
  rw [hu]

theorem Try.info_i32 : (Try.prog.info? 21).map (fun i => (i.zero, i.size, i.bytes)) = some (some (.int .i32 0), 1, 4) := by kernel_rfl

/-- The step of the law's append. -/
theorem step_ask {ops : Array Oper} {o : Oper} {a : Act} {K : Act → World → Prop} {Q : Exit → Act → World → Prop} {E : Prop} (hgd : o.guard = none) (s x : Operand)
    (ho : o.op = .call { callee := .builtin .append, args := #[s, x], argTypes := #[23, 23] }) (W : World) (ao : Option Addr) (l : List Int) (y0 y1 y2 y3 : Int) (hs : a.eval s = .slice ao l.length l.length) (hn : ao = none → l.length = 0)
    (hc : ∀ j (h : j < l.length), ∃ g off, ao = some ⟨g, off, none⟩ ∧ g < W.heap.size ∧ W.cell? ⟨g, off + j, none⟩ = some (.int .i32 l[j]))
    (hx : a.eval x = .slice (some ⟨W.heap.size, 0, none⟩) 4 4) (hl : l.length ≤ 1000)
    (h : ∀ ao' cap' w', AskSl w' (.slice ao' (l.length + 4) cap') (l ++ [y0, y1, y2, y3]) → Below W.heap.size W w' → K (a.put o.dst (.slice ao' (l.length + 4) cap')) w') :
    if Region.wanted o (yielded ops a.tmps) = true then Oper.wp Try.prog o a (W.alloc (.cells #[.int .i32 y0, .int .i32 y1, .int .i32 y2, .int .i32 y3] 21)) K Q else E := by
  obtain ⟨i0, hi, hz0, hz1, hz2⟩ := info_parts Try.info_i32
  have hblk := heap_alloc_new W (.cells #[.int .i32 y0, .int .i32 y1, .int .i32 y2, .int .i32 y3] 21)
  refine step_append_grows hgd s x 23 ho 21 i0 (.int .i32 0) 1 4 Try.underlying23 hi hz0 hz1 hz2 rfl (by decide) ao l.length l.length (i32s l) hs (fun e => ⟨hn e, hn e⟩) (by rw [i32s_len]; omega)
    (ask_olds (fun j hj => ?_)) ⟨W.heap.size, 0, none⟩ 4 4 (i32s [y0, y1, y2, y3]) hx rfl (fun j u hj => ?_) (fun u hu => ?_) (by omega) (by unfold maxLen; omega) (by omega) (fun v' w' h1 h2 => ?_)
  · obtain ⟨g, off, e, hg, hcell⟩ := hc j hj
    exact ⟨g, off, e, by simp; omega, by rw [World.cell?_alloc_lt _ _ _ hg]; exact hcell⟩
  · rw [add_none, Nat.zero_add, cell_of_row _ W.heap.size j _ _ _ hblk]
    simpa [i32s] using hj
  · simp [i32s] at hu
    rcases hu with rfl | rfl | rfl | rfl <;> rfl
  · obtain ⟨ao', cap', rfl⟩ := own_slice h1
    have e : i32s l ++ i32s [y0, y1, y2, y3] = i32s (l ++ [y0, y1, y2, y3]) := by simp [i32s]
    rw [e] at h1
    refine h ao' cap' w' (ask_own (by simpa using h1)) ?_
    have b1 := below_of_grown h2 W.heap.size (by simp) (fun k e => by cases e)
    exact ((Below.refl _ _).alloc (Nat.le_refl _) _).trans b1

theorem rising_fine {α : Type} : ∀ (l : List (SRow α)) (a : Int), Rising a l → ∀ y ∈ l, y.f ≤ y.t ∧ y.t ≤ 1114111
  | [], _, _, y, hy => by simp at hy
  | x :: l, _, h, y, hy => by
    obtain ⟨r1, r2, r3, r4⟩ := h
    rcases List.mem_cons.1 hy with rfl | hy
    · exact ⟨r2, r3⟩
    · exact rising_fine l _ r4 y hy
end Go.Proofs.Ytpfnljebofgifab
