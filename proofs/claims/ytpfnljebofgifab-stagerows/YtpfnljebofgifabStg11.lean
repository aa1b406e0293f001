import Derived.Test.YtpfnljebofgifabStg10
namespace Go.Proofs.Ytpfnljebofgifab
open Go.RowKit

def getV (other : Int) (l : List (SRow Int)) (r : Int) : Int := if r < 0 ∨ 1114111 < r then other else at' other l r

section
variable {w : World} {p : Nat} {l : List (SRow Int)} {other : Int} {f : Nat → Value} {vals : List Int} {nr : List (SRow Nat)} {bl : List (List Nat)} {pl : List Nat}

theorem TabP.same {w' : World} (h : TabP w p l other f vals nr bl pl) (e : w'.heap = w.heap) : TabP w' p l other f vals nr bl pl := by
  obtain ⟨B, ho⟩ := h.own
  obtain ⟨B2, ho2⟩ := h.blk
  refine ⟨h.row.of_block (by rw [e]), ⟨B, ho.step (fun k _ => by rw [e])⟩, ⟨B2, ?_⟩, h.plc, h.numd, h.laid, h.few⟩
  unfold World.ownsRow at ho2 ⊢
  rw [e]; exact ho2

theorem TabP.value (h : TabP w p l other f vals nr bl pl) (n : Nat) (x : Int) (hn : vals[n]? = some x) : ∃ g cap, w.cell? ⟨p, 0, none⟩ = some (.slice (some ⟨g, 0, none⟩) vals.length cap) ∧ n < vals.length ∧ w.cell? ⟨g, n, none⟩ = some (.int .i64 x) := by
  obtain ⟨hlt, hx⟩ := List.getElem?_eq_some_iff.1 hn
  obtain ⟨B, ho⟩ := h.own
  have hrow := h.row.cell (i := 0) (by omega)
  obtain ⟨ao, cap, e, hc⟩ := ho.open
  obtain ⟨g, rfl, h2⟩ := hc n hlt
  exact ⟨g, cap, by rw [hrow, e], hlt, by rw [h2, hx]⟩

set_option maxHeartbeats 1000000 in
theorem get_p (h : TabP w p l other f vals nr bl pl) (r : Int) :
    Calls Try.prog 10 #[.pointer (some ⟨p, 0, none⟩), .int .i32 r] w fun e w' => e = .returned (.int .i64 (getV other l r)) ∧ ∃ n, w' = w.drewN n := by
  by_cases hr : r < 0 ∨ 1114111 < r
  · have H : Hid (getV other l r = other) := if_pos hr
    obtain ⟨g, cap, c0, hlt, c1⟩ := h.value 0 other h.numd.head
    have hlt' : (0 : Int) < (vals.length : Int) := by omega
    clear h
    by_cases h0 : r < 0
    · go_enter Try.func10, Try.ntmps10
      go_wp2
      go_ret
      exact ⟨ret_int H.out.symm, 0, rfl⟩
    · have h1 : (1114111 : Int) < r := by omega
      clear hr
      go_enter Try.func10, Try.ntmps10
      go_wp2
      go_ret
      exact ⟨ret_int H.out.symm, 0, rfl⟩
  · have H : Hid (getV other l r = at' other l r) := if_neg hr
    have h0 : ¬ r < 0 := by omega
    have h1 : ¬ (1114111 : Int) < r := by omega
    obtain ⟨g, cap, c0, hlt, c1⟩ := h.value _ _ (h.num r)
    have HA := hid (fun n => at_any (h.same (w' := w.drewN n) rfl) r (by omega) (by omega))
    clear h hr
    generalize at' 0 nr r = n at *
    generalize at' other l r = x at *
    have b1 : (0 : Int) ≤ n ∧ (n : Int) < (vals.length : Int) := by omega
    go_enter Try.func10, Try.ntmps10
    go_wp2_with fail
    go_quiet ((go_at_call 18; exact Calls.quiet_of (HA.out _)))
    go_wp2
    go_ret
    exact ⟨ret_int H.out.symm, _, rfl⟩

theorem blocks_p (h : TabP w p l other f vals nr bl pl) :
    Calls Try.prog 14 #[.pointer (some ⟨p, 0, none⟩)] w fun e w' => e = .returned (.int .i64 bl.length) ∧ w' = w := by
  obtain ⟨g, cap, q, c1, _, _, hbl, _⟩ := h.read 0 0 (by omega) (by omega)
  clear h
  go_enter Try.func14, Try.ntmps14
  go_wp2
  go_ret
  exact ⟨rfl, rfl⟩
end

theorem get_any {w : World} {p : Nat} {l : List (SRow Int)} {other : Int} (h : Tab w p l other) (r : Int) :
    Calls Try.prog 10 #[.pointer (some ⟨p, 0, none⟩), .int .i32 r] w fun e w' => e = .returned (.int .i64 (getV other l r)) ∧ ∃ n, w' = w.drewN n := by
  obtain ⟨f, vals, nr, bl, pl, h⟩ := h
  exact get_p h r

theorem Tab.drewN {w : World} {p : Nat} {l : List (SRow Int)} {other : Int} (h : Tab w p l other) (n : Nat) : Tab (w.drewN n) p l other := by
  obtain ⟨f, vals, nr, bl, pl, h⟩ := h
  exact ⟨f, vals, nr, bl, pl, h.same rfl⟩
end Go.Proofs.Ytpfnljebofgifab
