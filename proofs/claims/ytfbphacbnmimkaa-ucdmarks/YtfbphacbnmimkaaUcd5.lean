import Derived.Test.YtfbphacbnmimkaaUcd4
namespace Go.Proofs.Ytfbphacbnmimkaa
open Go.RowKit

/-- How many code points are of a kind, the number ahead known. -/
def cntP (k : Int) : Int → List (SRow Tr) → Int
  | n, [] => n
  | n, x :: xs => cntP k (if x.v.a = k then wrap64 (n + wrap64 (wrap64 (wrap32 (x.t - x.f)) + 1)) else n) xs

section
variable {w : World} {b : Nat} {L : List (SRow Tr)} {p : Nat} {rv : Value}

set_option maxHeartbeats 2000000 in
set_option maxRecDepth 100000 in
theorem count_any (h : Book w b L p rv) (hl : L.length ≤ maxLen) (kd : Int) :
    Calls Try.prog 16 #[.pointer (some ⟨b, 0, none⟩), .int .i64 kd] w fun e w' => e = .returned (.int .i64 (cntP kd 0 L)) ∧ Below w.heap.size w w' := by
  obtain ⟨_, c1⟩ := h.cell
  obtain ⟨ao, cap, rfl, _, hc⟩ := h.rows
  clear h
  have HC := hid hc
  clear hc
  unfold maxLen at hl
  have H : Hid (cntP kd 0 L = cntP kd 0 L) := rfl
  go_enter Try.func16, Try.ntmps16
  go_wp2
  go_loopg [13, 5] L.length (fun g i av wr => ∃ (k : Nat) (a : Int), k ≤ L.length ∧ g = L.length - k ∧ i = .int .i64 k ∧ av = .int .i64 a ∧ Below w.heap.size w wr ∧ Hid (cntP kd 0 L = cntP kd a (L.drop k)))
  case atStart => exact ⟨0, 0, Nat.zero_le _, by omega, rfl, rfl, Below.refl _ _, rfl⟩
  case round =>
    clear H
    obtain ⟨k, a, hk, hg, rfl, rfl, hb, H⟩ := hrel
    have HG := hid hg
    clear hg
    by_cases hlt : k < L.length
    · obtain ⟨gb, off, rfl, hgb, e0, e1, e2⟩ := HC.out k hlt
      have d0 := (hb.cell (p := ⟨gb, off + k * 7, none⟩) hgb).trans e0
      have d1 := (hb.cell (p := ⟨gb, off + k * 7 + 1, none⟩) hgb).trans e1
      obtain ⟨d2, g3, g4, g5, g6⟩ := e2.of_block (hb.block gb hgb)
      have d3 : wr.cell? ⟨gb, off + k * 7 + 3, none⟩ = some _ := g3
      have d4 : wr.cell? ⟨gb, off + k * 7 + 4, none⟩ = some _ := g4
      have d5 : wr.cell? ⟨gb, off + k * 7 + 5, none⟩ = some _ := g5
      have d6 : wr.cell? ⟨gb, off + k * 7 + 6, none⟩ = some _ := g6
      clear g3 g4 g5 g6
      clear e0 e1 e2
      have H2 : Hid (cntP kd 0 L = cntP kd (if L[k].v.a = kd then wrap64 (a + wrap64 (wrap64 (wrap32 (L[k].t - L[k].f)) + 1)) else a) (L.drop (k + 1))) := by
        show _ = _
        rw [H.out, List.drop_eq_getElem_cons hlt]; rfl
      clear H
      have HB := hid (fun o => hb.alloc (by have := hb.size; omega) o)
      clear HC hb
      generalize L[k] = x at *
      obtain ⟨xf, xt, xv⟩ := x
      obtain ⟨va, vb, vc, vd, ve⟩ := xv
      simp only at d0 d1 d2 d3 d4 d5 d6 H2
      by_cases hk2 : va = kd
      · have H3 : Hid (cntP kd 0 L = cntP kd (wrap64 (a + wrap64 (wrap64 (wrap32 (xt - xf)) + 1))) (L.drop (k + 1))) := by show _ = _; rw [H2.out, if_pos hk2]
        clear H2
        go_wp2
        go_roundg (L.length - (k + 1))
        case measure => rw [HG.out]; omega
        case rel => exact ⟨k + 1, _, by omega, rfl, by go_num, rfl, HB.out _, H3.out⟩
      · have H3 : Hid (cntP kd 0 L = cntP kd a (L.drop (k + 1))) := by show _ = _; rw [H2.out, if_neg hk2]
        clear H2
        go_wp2
        go_roundg (L.length - (k + 1))
        case measure => rw [HG.out]; omega
        case rel => exact ⟨k + 1, a, by omega, rfl, by go_num, rfl, HB.out _, H3.out⟩
    · have e : k = L.length := by omega
      subst e
      have H3 : Hid (cntP kd 0 L = a) := by show _ = _; rw [H.out, List.drop_length]; rfl
      clear H
      go_wp2
      go_ret
      exact ⟨ret_int H3.out.symm, hb⟩

/-- The least code point from r on that is of a kind. -/
def nextP (r k : Int) : List (SRow Tr) → Int × Bool
  | [] => (0, false)
  | x :: xs => if r ≤ x.t then if x.v.a = k then (max x.f r, true) else nextP r k xs else nextP r k xs

set_option maxHeartbeats 2000000 in
set_option maxRecDepth 100000 in
theorem next_any (h : Book w b L p rv) (hl : L.length ≤ maxLen) (r kd : Int) :
    Calls Try.prog 18 #[.pointer (some ⟨b, 0, none⟩), .int .i32 r, .int .i64 kd] w fun e w' => e = .returned (.tuple #[.int .i32 (nextP r kd L).1, .bool (nextP r kd L).2]) ∧ Below w.heap.size w w' := by
  obtain ⟨_, c1⟩ := h.cell
  obtain ⟨ao, cap, rfl, _, hc⟩ := h.rows
  clear h
  have HC := hid hc
  clear hc
  unfold maxLen at hl
  go_enter Try.func18, Try.ntmps18
  go_wp2
  go_loopg [15] L.length (fun g i wr => ∃ (k : Nat), k ≤ L.length ∧ g = L.length - k ∧ i = .int .i64 k ∧ Below w.heap.size w wr ∧ Hid (nextP r kd L = nextP r kd (L.drop k)))
  case atStart => exact ⟨0, Nat.zero_le _, by omega, rfl, Below.refl _ _, rfl⟩
  case round =>
    obtain ⟨k, hk, hg, rfl, hb, H⟩ := hrel
    have HG := hid hg
    clear hg
    by_cases hlt : k < L.length
    · obtain ⟨gb, off, rfl, hgb, e0, e1, e2⟩ := HC.out k hlt
      have d0 := (hb.cell (p := ⟨gb, off + k * 7, none⟩) hgb).trans e0
      have d1 := (hb.cell (p := ⟨gb, off + k * 7 + 1, none⟩) hgb).trans e1
      obtain ⟨d2, g3, g4, g5, g6⟩ := e2.of_block (hb.block gb hgb)
      have d3 : wr.cell? ⟨gb, off + k * 7 + 3, none⟩ = some _ := g3
      have d4 : wr.cell? ⟨gb, off + k * 7 + 4, none⟩ = some _ := g4
      have d5 : wr.cell? ⟨gb, off + k * 7 + 5, none⟩ = some _ := g5
      have d6 : wr.cell? ⟨gb, off + k * 7 + 6, none⟩ = some _ := g6
      clear g3 g4 g5 g6
      clear e0 e1 e2
      have H2 : Hid (nextP r kd L = if r ≤ L[k].t then if L[k].v.a = kd then (max L[k].f r, true) else nextP r kd (L.drop (k + 1)) else nextP r kd (L.drop (k + 1))) := by
        show _ = _
        rw [H.out, List.drop_eq_getElem_cons hlt]; rfl
      clear H
      have HB := hid (fun o => hb.alloc (by have := hb.size; omega) o)
      clear HC hb
      generalize L[k] = x at *
      obtain ⟨xf, xt, xv⟩ := x
      obtain ⟨va, vb, vc, vd, ve⟩ := xv
      simp only at d0 d1 d2 d3 d4 d5 d6 H2
      by_cases hr2 : r ≤ xt
      · by_cases hk2 : va = kd
        · have H3 : Hid (nextP r kd L = (max xf r, true)) := by show _ = _; rw [H2.out, if_pos hr2, if_pos hk2]
          clear H2
          go_wp2
          go_ret2
          exact ⟨by rw [H3.out]; rfl, HB.out _⟩
        · have H3 : Hid (nextP r kd L = nextP r kd (L.drop (k + 1))) := by show _ = _; rw [H2.out, if_pos hr2, if_neg hk2]
          clear H2
          go_wp2
          go_roundg (L.length - (k + 1))
          case measure => rw [HG.out]; omega
          case rel => exact ⟨k + 1, by omega, rfl, by go_num, HB.out _, H3.out⟩
      · have H3 : Hid (nextP r kd L = nextP r kd (L.drop (k + 1))) := by show _ = _; rw [H2.out, if_neg hr2]
        clear H2
        go_wp2
        go_roundg (L.length - (k + 1))
        case measure => rw [HG.out]; omega
        case rel => exact ⟨k + 1, by omega, rfl, by go_num, HB.out _, H3.out⟩
    · have e : k = L.length := by omega
      subst e
      have H3 : Hid (nextP r kd L = (0, false)) := by show _ = _; rw [H.out, List.drop_length]; rfl
      clear H
      go_wp2
      go_ret2
      exact ⟨by rw [H3.out]; rfl, hb⟩
end
end Go.Proofs.Ytfbphacbnmimkaa
