import Derived.Test.YtbamhbfncddieaaStg5
namespace Go.Proofs.Ytbamhbfncddieaa.Uc
open Go.RowKit

/-- A slice of rows. -/
def VIn (w : World) (v : Value) (l : List (SRow Tr)) : Prop :=
  ∃ ao cap, v = .slice ao l.length cap ∧ (∀ k, v.ownBlock = some k → k < w.heap.size) ∧ ∀ j (h : j < l.length), ∃ g off, ao = some ⟨g, off, none⟩ ∧ g < w.heap.size ∧
    w.cell? ⟨g, off + j * 7, none⟩ = some (.int .i32 l[j].f) ∧ w.cell? ⟨g, off + j * 7 + 1, none⟩ = some (.int .i32 l[j].t) ∧ At5 w g (off + j * 7 + 2) l[j].v

theorem VIn.chg {w w' : World} {v : Value} {l : List (SRow Tr)} {S : Nat → Prop} (h : VIn w v l) (hb : Chg S w w') (hv : ∀ k, v.ownBlock = some k → ¬ S k) : VIn w' v l := by
  obtain ⟨ao, cap, e, hw, hc⟩ := h
  refine ⟨ao, cap, e, fun k hk => Nat.lt_of_lt_of_le (hw k hk) hb.size, fun j hj => ?_⟩
  obtain ⟨g, off, e2, hg, h0, h1, h2⟩ := hc j hj
  have hk := hb.block g hg (hv g (by rw [e, e2]; rfl))
  refine ⟨g, off, e2, Nat.lt_of_lt_of_le hg hb.size, ?_⟩
  rw [World.cell?_of_block (a := ⟨g, off + j * 7, none⟩) hk, World.cell?_of_block (a := ⟨g, off + j * 7 + 1, none⟩) hk]
  exact ⟨h0, h1, h2.of_block hk⟩
theorem VIn.step {w w' : World} {v : Value} {l : List (SRow Tr)} (h : VIn w v l) (hb : Below w.heap.size w w') : VIn w' v l := h.chg (S := fun _ => False) (.of_below hb) (fun _ _ e => e)

set_option maxHeartbeats 2000000 in
set_option maxRecDepth 100000 in
theorem check_any {w : World} {v : Value} {l : List (SRow Tr)} (h : VIn w v l) (hl : l.length ≤ maxLen) :
    Calls Try.prog 58 #[v] w fun e w' => e = .returned (.int .i64 (check l)) ∧ Below w.heap.size w w' := by
  obtain ⟨ao, cap, rfl, _, hc⟩ := h
  have HC := hid hc
  clear hc
  unfold maxLen at hl
  by_cases hbig : 4096 < l.length
  · have h1 : (4096 : Int) < (l.length : Int) := by omega
    have H : Hid (check l = 10) := if_pos hbig
    clear HC
    go_enter Try.func58, Try.ntmps58
    go_wp2
    go_ret
    exact ⟨ret_int H.out.symm, Below.refl _ _⟩
  · have h1 : ¬ (4096 : Int) < (l.length : Int) := by omega
    have H : Hid (check l = chk (-1) l) := if_neg hbig
    go_enter Try.func58, Try.ntmps58
    go_wp2
    go_loopg [11, 3] l.length (fun g i av wr => ∃ (k : Nat) (a : Int), k ≤ l.length ∧ g = l.length - k ∧ i = .int .i64 k ∧ av = .int .i32 a ∧ Below w.heap.size w wr ∧ Hid (check l = chk a (l.drop k)))
    case atStart => exact ⟨0, -1, Nat.zero_le _, by omega, rfl, rfl, Below.refl _ _, H.out⟩
    case round =>
      clear H
      obtain ⟨k, a, hk, hg, rfl, rfl, hb, H⟩ := hrel
      have HG := hid hg
      clear hg
      by_cases hlt : k < l.length
      · obtain ⟨gb, off, rfl, hgb, e0, e1, e2⟩ := HC.out k hlt
        have d0 := (hb.cell (p := ⟨gb, off + k * 7, none⟩) hgb).trans e0
        have d1 := (hb.cell (p := ⟨gb, off + k * 7 + 1, none⟩) hgb).trans e1
        obtain ⟨d2, g3, g4, g5, g6⟩ := e2.of_block (hb.block gb hgb)
        have d3 : wr.cell? ⟨gb, off + k * 7 + 3, none⟩ = some _ := g3
        have d4 : wr.cell? ⟨gb, off + k * 7 + 4, none⟩ = some _ := g4
        have d5 : wr.cell? ⟨gb, off + k * 7 + 5, none⟩ = some _ := g5
        have d6 : wr.cell? ⟨gb, off + k * 7 + 6, none⟩ = some _ := g6
        clear g3 g4 g5 g6
        clear e0 e1 e2
        have H2 : Hid (check l = if l[k].f < 0 ∨ l[k].t < l[k].f ∨ 1114111 < l[k].t then 7 else if l[k].f ≤ a then 9 else chk l[k].t (l.drop (k + 1))) := by
          show _ = _
          rw [H.out, List.drop_eq_getElem_cons hlt]; rfl
        clear H
        have HB := hid (fun o => hb.alloc (by have := hb.size; omega) o)
        clear HC hb
        generalize l[k] = x at *
        obtain ⟨xf, xt, xv⟩ := x
        obtain ⟨va, vb, vc, vd, ve⟩ := xv
        simp only at d0 d1 d2 d3 d4 d5 d6 H2
        by_cases hbad : xf < 0 ∨ xt < xf ∨ 1114111 < xt
        · have H3 : Hid (check l = 7) := by show _ = _; rw [H2.out, if_pos hbad]
          clear H2
          by_cases b1 : xf < 0
          · clear hbad
            go_wp2
            go_ret
            exact ⟨ret_int H3.out.symm, HB.out _⟩
          · by_cases b2 : xt < xf
            · clear hbad
              go_wp2
              go_ret
              exact ⟨ret_int H3.out.symm, HB.out _⟩
            · have b3 : (1114111 : Int) < xt := by omega
              clear hbad
              go_wp2
              go_ret
              exact ⟨ret_int H3.out.symm, HB.out _⟩
        · have b1 : ¬ xf < 0 := by omega
          have b2 : ¬ xt < xf := by omega
          have b3 : ¬ (1114111 : Int) < xt := by omega
          by_cases b4 : xf ≤ a
          · have H3 : Hid (check l = 9) := by show _ = _; rw [H2.out, if_neg hbad, if_pos b4]
            clear H2 hbad
            go_wp2
            go_ret
            exact ⟨ret_int H3.out.symm, HB.out _⟩
          · have H3 : Hid (check l = chk xt (l.drop (k + 1))) := by show _ = _; rw [H2.out, if_neg hbad, if_neg b4]
            clear H2 hbad
            go_wp2
            go_roundg (l.length - (k + 1))
            case measure => rw [HG.out]; omega
            case rel => exact ⟨k + 1, xt, by omega, rfl, by go_num, rfl, HB.out _, H3.out⟩
      · have e : k = l.length := by omega
        subst e
        have H3 : Hid (check l = 0) := by show _ = _; rw [H.out, List.drop_length]; rfl
        clear H
        go_wp2
        go_ret
        exact ⟨ret_int H3.out.symm, hb⟩
end Go.Proofs.Ytbamhbfncddieaa.Uc
