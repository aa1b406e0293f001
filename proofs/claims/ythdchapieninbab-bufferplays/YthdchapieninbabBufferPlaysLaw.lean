/-
  For every int room and every slice l of calls (of any kind, number, text and byte) the law BufferPlays returns true, and both read behind the call as they read before. No condition.
-/
import Derived.Test.YthdchapieninbabRows
import Derived.Test.YthdchapieninbabBuf12
import Derived.Deep.RegionHeld3
import Derived.Deep.Cut
import Derived.Deep.CutRange
import Derived.Deep.LoopGhost
import Derived.WalkKit
import Derived.ProofKit
import Derived.OpenShut
import Derived.ShutString
import Derived.ChangeOld
import Derived.Below
namespace Go.Proofs.Ythdchapieninbab.bufferPlays
open Go.ChangeShapes Go.WideShapes Go.ChangeAt Go.RowKit
open Go.ChangeMaps (open_string shut_string)
set_option linter.unusedVariables false

theorem own : ownKnob Try.prog.godebug = none := by kernel_rfl
theorem laidOut : laidOutB Try.prog = true := by kernel_rfl

theorem walk_no (room : Int) (hr : room < 0 ∨ 1048576 < room) (ao : Option Addr) (n cap : Nat) (w : World) :
    Calls Try.prog 3 #[.int .i64 room, .slice ao n cap] w fun e w' => e = .returned (.bool true) ∧ Below w.heap.size w w' := by
  have hok := Ok.start w
  rcases hr with h | h
  all_goals
    go_enter Try.func3, Try.ntmps3
    go_wp2_with (first | (go_at_call 6; refine (new_no _ _ (by omega)).mono ?_; rintro e w' ⟨rfl, rfl⟩) | (go_at_call 7; refine (awake_any _).mono ?_; rintro e w' ⟨rfl, hb'⟩; replace hok := hok.step hb'; clear hb'))
    go_ret
    exact ⟨rfl, hok.1⟩

/-- What the calls in a slice are, place by place. -/
def CallsAt (w : World) (ao : Option Addr) (n : Nat) : Prop := ∀ k, k < n → ∃ b off, ∃ o : OpR, ao = some ⟨b, off, none⟩ ∧ b < w.heap.size ∧
  (w.cell? ⟨b, off + k * 4, none⟩ = some (.int .i64 o.kind) ∧ w.cell? ⟨b, off + k * 4 + 1, none⟩ = some (.int .i64 o.n) ∧ w.cell? ⟨b, off + k * 4 + 2, none⟩ = some (.string o.s) ∧ w.cell? ⟨b, off + k * 4 + 3, none⟩ = some (.int .u8 o.c)) ∧ o.ok

set_option maxHeartbeats 4000000 in
set_option maxRecDepth 100000 in
theorem walk_yes (room : Nat) (hr : room ≤ 1048576) (ao : Option Addr) (n cap : Nat) (w : World) (HC : Hid (CallsAt w ao n)) (hn : n ≤ maxLen) :
    Calls Try.prog 3 #[.int .i64 room, .slice ao n cap] w fun e w' => e = .returned (.bool true) ∧ Below w.heap.size w w' := by
  have hok := Ok.start w
  unfold maxLen at hn
  have hr1 : (room : Int) ≤ 1048576 := by omega
  go_enter Try.func3, Try.ntmps3
  go_wp2_with fail
  refine (new_yes room w hr).mono ?_
  rintro e w1 ⟨rfl, hw⟩
  have hB : Buf w.heap.size w.heap.size [] room false w1 := by rw [hw]; exact Buf.new room w hr
  have hsz : w1.heap.size = w.heap.size + 1 := by rw [hw]; simp
  replace hok := hok.step (w' := w1) (by rw [hw]; exact (Below.refl _ _).alloc (Nat.le_refl _) _)
  clear hw
  have HSZ := hid hsz
  clear hsz
  go_wp2_with fail
  have hx : (w1.alloc (.cells #[.string ⟨#[]⟩, .int .i64 room, .bool false] 29)).heap[w1.heap.size]? = some (.cells #[.string ⟨#[]⟩, .int .i64 room, .bool false] 29) := heap_alloc_new w1 _
  replace hB := hB.alloc (.cells #[.string ⟨#[]⟩, .int .i64 room, .bool false] 29)
  replace hok := hok.alloc (o := .cells #[.string ⟨#[]⟩, .int .i64 room, .bool false] 29)
  have hxb : w.heap.size < w1.heap.size := by rw [HSZ.out]; omega
  generalize w1.alloc (.cells #[.string ⟨#[]⟩, .int .i64 room, .bool false] 29) = W2 at *
  clear HSZ
  generalize w1.heap.size = xb at *
  go_loopg [8] n (fun g i wr => ∃ (k : Nat) (x : ByteArray) (full : Bool), k ≤ n ∧ g = n - k ∧ i = .int .i64 k ∧ Ok w.heap.size w wr ∧ wr.heap[xb]? = some (.cells #[.string x, .int .i64 room, .bool full] 29) ∧ Buf w.heap.size w.heap.size x.data.toList room full wr)
  case atStart => exact ⟨0, ⟨#[]⟩, false, Nat.zero_le _, by omega, rfl, hok, hx, hB⟩
  case round =>
    clear hok hB hx
    obtain ⟨k, x, full, hk, hgk, rfl, hok, hx, hB⟩ := hrel
    have HG := hid hgk
    clear hgk
    by_cases hlt : k < n ∧ k < 100
    · obtain ⟨hlt, h100⟩ := hlt
      have h100' : (k : Int) < 100 := by omega
      obtain ⟨b, off, o, rfl, hbl, ⟨q0, q1, q2, q3⟩, ho1, ho2, ho3⟩ := HC.out k hlt
      have e0 := (hok.1.cell (p := ⟨b, off + k * 4, none⟩) hbl).trans q0
      have e1 := (hok.1.cell (p := ⟨b, off + k * 4 + 1, none⟩) hbl).trans q1
      have e2 := (hok.1.cell (p := ⟨b, off + k * 4 + 2, none⟩) hbl).trans q2
      have e3 := (hok.1.cell (p := ⟨b, off + k * 4 + 3, none⟩) hbl).trans q3
      obtain ⟨c0, c1, c2, g0, g1, g2⟩ := blk3 hx
      generalize o.kind = kind at *
      generalize o.n = num at *
      generalize o.s = s at *
      generalize o.c = c at *
      have Q3 := hid q3
      clear q0 q1 q2 q3
      by_cases h200 : 200 < s.size
      · have h201 : (200 : Int) < (s.size : Int) := by omega
        clear HC Q3
        go_wp2_with (first | (go_at_call 7; refine (awake_any _).mono ?_; rintro e w' ⟨rfl, hb'⟩; replace hok := hok.step hb'; clear hb'))
        go_ret
        exact ⟨rfl, hok.1⟩
      · have h201 : ¬ (200 : Int) < (s.size : Int) := by omega
        have hbw : b < wr.heap.size := Nat.lt_of_lt_of_le hbl hok.2
        have hxlt := (Array.getElem?_eq_some_iff.1 hx).1
        have HS1 := hid (step_any kind num c s (by omega) ho2 ho3 hB.drew)
        have HS2 := hid (step_any kind num c s (by omega) ho2 ho3 (hB.alloc (.cells #[.string ⟨#[]⟩, .int .i64 0, .bool false] 29)).drew)
        have HK1 : Hid (∀ W3, Turn w.heap.size w.heap.size wr.drew W3 → W3.heap[xb]? = some (.cells #[.string x, .int .i64 room, .bool full] 29) ∧ Ok w.heap.size w W3) := fun W3 ht =>
          ⟨ht.block hx (by omega) (by simp), hok.1.drew.trans ht.1, by have := ht.1.size; have := hok.2; simp at *; omega⟩
        have HK2 : Hid (∀ W3, Turn w.heap.size w.heap.size (wr.alloc (.cells #[.string ⟨#[]⟩, .int .i64 0, .bool false] 29)).drew W3 → W3.heap[xb]? = some (.cells #[.string x, .int .i64 room, .bool full] 29) ∧ W3.heap[wr.heap.size]? = some (.cells #[.string ⟨#[]⟩, .int .i64 0, .bool false] 29) ∧ Ok w.heap.size w W3) := fun W3 ht =>
          ⟨ht.block (by show (wr.alloc _).heap[xb]? = _; rw [Below.heap_alloc _ _ _ hxlt]; exact hx) (by omega) (by simp), ht.block (heap_alloc_new wr _) (by omega) (by simp), hok.alloc.1.drew.trans ht.1, by have := ht.1.size; have := hok.2; simp at *; omega⟩
        clear HC
        go_wp2_with fail
        go_cut [9, 10] from 39 to 86 (fun y ok wx => AtY w xb room x full y ok wx)
        case first =>
          clear hB hx hok Q3 HG
          go_region_with (first | (go_at_call 8; first | (refine HS1.out.mono ?_; rintro e W3 ⟨x', full', rfl, hB3, ht3⟩; obtain ⟨hx3, hok3⟩ := HK1.out W3 ht3; clear ht3) | (refine HS2.out.mono ?_; rintro e W3 ⟨x', full', rfl, hB3, ht3⟩; obtain ⟨hx3, hy3, hok3⟩ := HK2.out W3 ht3; obtain ⟨y0, y1, y2, f0, f1, f2⟩ := blk3 hy3; clear ht3)))
          all_goals (try go_wp2_with fail)
          all_goals go_meet
          all_goals first | exact atY_late hx3 hok3 hB3 | exact atY_early hx3 hy3 hok3 hB3 (by omega) (by omega)
        case rest =>
          obtain ⟨yb, x', full', rfl, rfl, hy, hx2, hok2, hB2, hne⟩ := hcut
          clear HS1 HS2 HK1 HK2 c0 c1 c2 g0 g1 g2 hx hB hok e0 e1 e2 e3
          obtain ⟨y0, y1, y2, _, _, _⟩ := blk3 hy
          obtain ⟨c0, c1, c2, g0, g1, g2⟩ := blk3 hx2
          have hy5 := hid (set3_same (x := .string x') (y := .int .i64 room) (z := .bool full') hx2)
          have hB5 := hid (hB2.heap hx2 (by omega) (by simp) (fun j hj => set3_other wc xb j (.string x') (.int .i64 room) (.bool full') hj))
          have hok5 := hid (hok2.set3 xb (by omega) (.string x') (.int .i64 room) (.bool full'))
          clear hx2 hB2 hok2
          go_wp2_with fail
          clear y0 y1 y2 c0 c1 c2 g0 g1 g2 hy
          generalize (((wc.setCell ⟨xb, 0, none⟩ (.string x')).setCell ⟨xb, 1, none⟩ (.int .i64 room)).setCell ⟨xb, 2, none⟩ (.bool full')) = W5 at *
          obtain ⟨c0, c1, c2, _, _, _⟩ := blk3 hy5.out
          have e3 := (hok5.out.1.cell (p := ⟨b, off + k * 4 + 3, none⟩) hbl).trans Q3.out
          have HI := hid (is_any (s := x') c hB5.out.drew)
          have HL : Hid (∀ W6, Below W5.drew.heap.size W5.drew W6 → Buf w.heap.size w.heap.size x'.data.toList room full' W6 ∧ Ok w.heap.size w W6 ∧ W6.heap[xb]? = some (.cells #[.string x', .int .i64 room, .bool full'] 29) ∧ W6.cell? ⟨b, off + k * 4 + 3, none⟩ = some (.int .u8 c)) := fun W6 hb =>
            ⟨hB5.out.drew.step hb, ⟨hok5.out.1.drew.trans (hb.mono hok5.out.2), by have := hb.size; have := hok5.out.2; simp at *; omega⟩, (hb.block xb (Array.getElem?_eq_some_iff.1 hy5.out).1).trans hy5.out, (hb.cell (p := ⟨b, off + k * 4 + 3, none⟩) (Nat.lt_of_lt_of_le hbl hok5.out.2)).trans e3⟩
          have hf := hB5.out.fits
          rw [len_size] at hf
          have hfi : ¬ (room : Int) < (x'.size : Int) := by omega
          clear hok5 hB5 hy5 Q3
          go_region_held3 (fun w' => w'.cell? ⟨xb, 0, none⟩ = some (.string x') ∧ w'.cell? ⟨xb, 1, none⟩ = some (.int .i64 room) ∧ w'.cell? ⟨xb, 2, none⟩ = some (.bool full') ∧ w'.cell? ⟨b, off + k * 4 + 3, none⟩ = some (.int .u8 c)) (first | exact ⟨d0, d1, d2, d3⟩ | exact ⟨c0, c1, c2, e3⟩)
            (first | (go_at_call 9; refine HI.out.mono ?_; rintro e W6 ⟨rfl, hb6⟩; obtain ⟨hB6, hok6, hx6, d3⟩ := HL.out W6 hb6; obtain ⟨d0, d1, d2, _, _, _⟩ := blk3 hx6; clear hb6) | (go_at_call 10; refine (len_s hB6).mono ?_; rintro e W7 ⟨rfl, rfl⟩))
          all_goals
            go_wp2_with fail
            go_roundg (n - (k + 1))
            case measure => rw [HG.out]; omega
            case rel => exact ⟨k + 1, x', full', by omega, rfl, by go_num, hok6, hx6, hB6⟩
    · by_cases hkn : k < n
      · have h100 : ¬ (k : Int) < 100 := by omega
        have hkn' : (k : Int) < (n : Int) := by omega
        clear HC
        go_wp2_with (first | (go_at_call 7; refine (awake_any _).mono ?_; rintro e w' ⟨rfl, hb'⟩; replace hok := hok.step hb'; clear hb'))
        go_ret
        exact ⟨rfl, hok.1⟩
      · have hkn' : ¬ (k : Int) < (n : Int) := by omega
        clear HC
        go_wp2_with (first | (go_at_call 7; refine (awake_any _).mono ?_; rintro e w' ⟨rfl, hb'⟩; replace hok := hok.step hb'; clear hb'))
        go_ret
        exact ⟨rfl, hok.1⟩
theorem walk (a0 : Int) (v1 : Value) (x1 : List OpR) (w : World) (w0 : (Lit.int .i64 a0).wf = true) (w1 : OpSl w v1 x1 ∧ x1.length ≤ maxLen) :
    Calls Try.prog 3 #[.int .i64 a0, v1] w fun e w' => e = .returned (.bool true) ∧ Below w.heap.size w w' := by
  have hl : ∃ ao n cap, v1 = .slice ao n cap ∧ CallsAt w ao n ∧ n ≤ maxLen := by
    obtain ⟨w1, hm⟩ := w1
    rcases w1 with ⟨rfl, a, cap, rfl⟩ | ⟨b, off, cap, rfl, hlt, hc⟩
    · exact ⟨a, 0, cap, rfl, fun k hk => by omega, Nat.zero_le _⟩
    · exact ⟨_, _, cap, rfl, fun k hk => ⟨b, off, x1[k], rfl, hlt, hc k hk⟩, hm⟩
  obtain ⟨ao, n, cap, rfl, hc, hm⟩ := hl
  by_cases h : a0 < 0 ∨ 1048576 < a0
  · exact walk_no a0 h ao n cap w
  · obtain ⟨room, rfl⟩ := Int.eq_ofNat_of_zero_le (show 0 ≤ a0 by omega)
    exact walk_yes room (by omega) ao n cap w hc hm

set_option maxRecDepth 100000 in
theorem lifted (os : Os) (started : os.Started) (H : Type) (enc : TypeId × Value → H) :
    ReturnsInHanded {} Try.checked os 3 .any (Rows.bufferPlaysSpec.pre6 enc Try.prog Try.f3 Rows.bufferPlaysRow.domain false) (Rows.bufferPlaysSpec.post enc Try.prog Try.f3 false true false false) := by
  refine returnsInHanded_of_change (C := Try.checked) own started (by kernel_rfl) Try.func3
    (ChangeSpec.witness6 (enc := enc) (C := Try.checked) false ⟨#[], #[.int .i64 0, .slice none 0 0], []⟩ 8 (by kernel_rfl) (by kernel_rfl) (by kernel_rfl) (by kernel_rfl)) ?_
  intro W base args ds gs before hval0 hW hcnd _
  have hval : ∀ (j : Nat) t v, Try.f3.params[j]? = some t → args[j]? = some v → Value.okWide Try.prog W .any base t v := hval0
  have hW' := hW
  obtain ⟨p, q, hA0, hV, rfl, hfz, hnd⟩ := hW
  have hA : DataW.TrodAll enc Try.prog W 0 (fun _ => true) true Try.f3.params.toList args.toList ds p := hA0
  rw [Try.params3] at hA hval
  obtain ⟨v0, vs0, d0, ds0, p0, q0, hargs, rfl, rfl, h0, r0⟩ := trodAll_cons hA
  obtain ⟨v1, vs1, d1, ds1, p1, q1, rfl, rfl, rfl, h1, r1⟩ := trodAll_cons r0
  obtain ⟨rfl, rfl, rfl⟩ := trodAll_nil r1
  obtain rfl : args = #[v0, v1] := by cases args; simp_all
  obtain ⟨rfl, rfl⟩ := trodVars_none hV
  obtain ⟨a0, rfl, rfl, rfl, w0⟩ := open_int Try.underlying3 (hval 0 3 v0 rfl rfl) h0
  obtain ⟨a1, len1, cap1, rfl⟩ := okWide_slice Try.underlying22 (hval 1 22 v1 rfl rfl)
  have k1 := h1
  have lt1 : ∀ x ∈ p1, x.block < W.heap.size := by obtain ⟨m, hm⟩ := k1; exact DataW.trod_lt m _ _ _ hm
  obtain ⟨x1, w1⟩ := open_opsl (v := .slice a1 len1 cap1) rfl h1
  clear hA0 hval0
  refine (walk a0 _ x1 W w0 w1).mono fun e W' ⟨he, bel⟩ => ?_
  subst he
  exact ⟨_, rfl, _, _, _, [], _, [], hW', trodAll_mk1 (shut_bool Try.underlying4 _), (trodAll_cons_mk (shut_int Try.underlying3 w0) (trodAll_cons_mk (Below.trod laidOut (by kernel_rfl) (of_decide_eq_true (by kernel_rfl)) k1 bel lt1) trodAll_mk0)), rfl, bel.frame _, fun h => by cases h⟩

theorem over : Rows.bufferPlaysRow.holds Try.pinned (OpenSpec.ofChange Rows.bufferPlaysSpec) :=
  OpenClaim.holds_of_wide 3 Try.f3 rfl rfl rfl rfl rfl rfl rfl ⟨rfl, rfl, rfl, rfl, rfl⟩ rfl rfl rfl rfl rfl (by kernel_rfl) Try.func3 (by kernel_rfl)
    (of_decide_eq_true (by kernel_rfl)) (by unfold Func.isWrapper; first | (rw [if_pos (by decide +kernel)]; kernel_rfl) | (rw [if_neg (by decide +kernel)]; exact ⟨rfl, rfl⟩))
    (fun os started H enc _ => lifted os started H enc)

end Go.Proofs.Ythdchapieninbab.bufferPlays
namespace Go.Proofs.Ythdchapieninbab
theorem bufferPlays_holds : Rows.BufferPlaysSaid := bufferPlays.over
#print axioms bufferPlays_holds
end Go.Proofs.Ythdchapieninbab
