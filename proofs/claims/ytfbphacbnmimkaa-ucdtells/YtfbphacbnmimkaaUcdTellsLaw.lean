/-
  For every slice l of runes the law UcdTells returns true, and l reads behind the call as it read before. No condition.
-/
import Derived.Test.YtfbphacbnmimkaaRows
import Derived.Test.YtfbphacbnmimkaaUcd17
import Derived.WalkKit
import Derived.ProofKit
import Derived.OpenShut
import Derived.ShutString
import Derived.ChangeOld
import Derived.Below
namespace Go.Proofs.Ytfbphacbnmimkaa.ucdTells
open Go.ChangeShapes Go.WideShapes Go.ChangeAt Go.RowKit
open Go.ChangeMaps (open_string shut_string)
set_option linter.unusedVariables false

theorem own : ownKnob Try.prog.godebug = none := by kernel_rfl
theorem laidOut : laidOutB Try.prog = true := by kernel_rfl

/-- WHAT THE WALK IS TOLD OF A SLICE OF INTEGERS THAT CAME IN: it is nil; or it leads to a row of 'cap' cells, the numbers 'zs' (the first 'len' are its elements, the rest its spare room), each fitting its kind. -/
def IsRow (k : IntKind) (w : World) (a : Option Addr) (len cap : Nat) (zs : List Int) : Prop :=
  (a = none ∧ len = 0 ∧ cap = 0 ∧ zs = []) ∨
  ∃ x, a = some x ∧ len ≤ cap ∧ cap ≤ maxLen ∧ zs.length = cap ∧ (∀ i, i < zs.length → w.cell? (x.add i) = some (.int k (zs.getD i 0))) ∧ ∀ n ∈ zs, (Lit.int k n).wf = true

theorem runes_of_row {w : World} {a : Option Addr} {len cap : Nat} {zs : List Int} (h : IsRow .i32 w a len cap zs) : (zs.take len).length = len ∧ RunesIn w a (zs.take len) ∧ ∀ y ∈ zs.take len, -2147483648 ≤ y ∧ y ≤ 2147483647 := by
  rcases h with ⟨rfl, rfl, rfl, rfl⟩ | ⟨x, rfl, hl, hm, hz, hcell, hwz⟩
  · exact ⟨rfl, fun k hk => by simp at hk, fun y hy => by simp at hy⟩
  · have hlen : (zs.take len).length = len := by rw [List.length_take]; omega
    refine ⟨hlen, fun k hk => ?_, fun y hy => by have h := hwz y (List.mem_of_mem_take hy); simp only [Lit.wf, Bool.and_eq_true, decide_eq_true_eq] at h; exact h⟩
    rw [hlen] at hk
    obtain ⟨b, off, spot⟩ := x
    have hc := hcell k (by omega)
    have hspot : spot = none := by simpa [Addr.add] using World.cell?_spot (hcell 0 (by omega))
    subst hspot
    have hadd : (⟨b, off, none⟩ : Addr).add k = ⟨b, off + k, none⟩ := by unfold Addr.add; split <;> simp_all
    rw [hadd] at hc
    refine ⟨b, off, rfl, World.block_lt_of_cell? w _ hc, ?_⟩
    rw [hc, List.getElem_take]
    simp [List.getD_eq_getElem?_getD, List.getElem?_eq_getElem (show k < zs.length by omega)]

/-- The law's copy of a row. -/
def RLoc (lb : Nat) (x : Ln) (w : World) : Prop := w.cell? ⟨lb, 3, none⟩ = some (.int .i64 x.2.2.2.1) ∧ w.cell? ⟨lb, 4, none⟩ = some (.int .i64 x.2.2.2.2.1) ∧ w.cell? ⟨lb, 5, none⟩ = some (.int .i64 x.2.2.2.2.2.1) ∧ w.cell? ⟨lb, 6, none⟩ = some (.int .i64 x.2.2.2.2.2.2)
theorem RLoc.of_block {lb : Nat} {x : Ln} {w w' : World} (h : RLoc lb x w) (e : w'.heap[lb]? = w.heap[lb]?) : RLoc lb x w' := by
  unfold RLoc
  rw [World.cell?_of_block (a := ⟨lb, 3, none⟩) e, World.cell?_of_block (a := ⟨lb, 4, none⟩) e, World.cell?_of_block (a := ⟨lb, 5, none⟩) e, World.cell?_of_block (a := ⟨lb, 6, none⟩) e]; exact h
theorem RLoc.step {lb : Nat} {x : Ln} {w w' : World} (h : RLoc lb x w) (hb : Below w.heap.size w w') : RLoc lb x w' := h.of_block (hb.block lb (World.block_lt_of_cell? w _ h.1))
theorem RLoc.new (w : World) (x : Ln) (t : TypeId) : RLoc w.heap.size x (w.alloc (.cells #[.int .i64 x.1, .int .i64 x.2.1, .int .i64 x.2.2.1, .int .i64 x.2.2.2.1, .int .i64 x.2.2.2.2.1, .int .i64 x.2.2.2.2.2.1, .int .i64 x.2.2.2.2.2.2] t)) := by
  unfold RLoc
  rw [cell_new _ _ _ _ _ rfl, cell_new _ _ _ _ _ rfl, cell_new _ _ _ _ _ rfl, cell_new _ _ _ _ _ rfl]
  exact ⟨rfl, rfl, rfl, rfl⟩

set_option maxHeartbeats 4000000 in
set_option maxRecDepth 100000 in
theorem walk (a0 : Option Addr) (len0 cap0 : Nat) (z0 : List Int) (w : World) (w0 : IsRow .i32 w a0 len0 cap0 z0) :
    Calls Try.prog 3 #[.slice a0 len0 cap0] w fun e w' => e = .returned (.bool true) ∧ Below w.heap.size w w' := by
  obtain ⟨hlen, hR, hZ⟩ := runes_of_row w0
  have HZ := hid hZ
  clear hZ
  have HA := hid book_awake
  have HM := hid book_tells
  have HN := hid (new_any w)
  generalize z0.take len0 = zs at *
  generalize bookL = L at *
  clear w0
  subst hlen
  have HR := hid hR
  clear hR
  have h0 := Ok.start w
  by_cases hl : 60 < zs.length
  · go_enter Try.func3, Try.ntmps3
    go_wp2_with fail
    refine HN.out.mono ?_
    rintro e w1 ⟨b, p, rv, rfl, hb1, hB1⟩
    have HB := hid hB1
    replace h0 := h0.step hb1
    clear hB1 hb1
    go_wp2_with fail
    refine (awake_any HB.out HA.out).mono ?_
    rintro e w2 ⟨rfl, hb2⟩
    replace h0 := h0.step hb2
    go_wp2_with fail
    go_ret
    exact ⟨rfl, h0.1⟩
  · go_enter Try.func3, Try.ntmps3
    go_wp2_with fail
    refine HN.out.mono ?_
    rintro e w1 ⟨b, p, rv, rfl, hb1, hB1⟩
    have HB := hid hB1
    replace h0 := h0.step hb1
    clear hB1 hb1 HN
    have HA2 := hid (asks_mk b L p rv)
    go_wp2_with fail
    go_loopg [17] zs.length (fun g i wr => ∃ k : Nat, k ≤ zs.length ∧ g = zs.length - k ∧ i = .int .i64 k ∧ Hid (Ok w.heap.size w wr ∧ Book wr b L p rv))
    case atStart => exact ⟨0, Nat.zero_le _, by omega, rfl, h0, HB.out⟩
    case round =>
      clear h0 HB
      obtain ⟨k, hk, hg, rfl, H⟩ := hrel
      have HG := hid hg
      have hok := H.out.1
      have HB := hid H.out.2
      clear hg H
      by_cases hlt : k < zs.length
      · obtain ⟨bb, off, rfl, hbl, hc⟩ := HR.out k hlt
        have hc' := (hok.1.cell (p := ⟨bb, off + k, none⟩) hbl).trans hc
        have ⟨hr0, hr1⟩ := HZ.out zs[k] (List.getElem_mem hlt)
        clear hc hbl HR HZ
        generalize zs[k] = r at *
        have HAs := hid (HA2.out r)
        rw [HM.out r] at HAs
        have HRw := hid (fun w => rrow_any r w)
        have HKd := hid (fun w => rKind_any r w)
        clear HA2 HM HA
        unfold trOf hasP at HAs
        generalize rkindP (rrowP r) r = kd at *
        generalize rrowP r = x at *
        obtain ⟨x1, x2, x3, x4, x5, x6, x7⟩ := x
        simp only [rlv, rcells7] at HAs HRw
        go_wp2_with (go_at_call 9; refine (HRw.out _).mono ?_; rintro e w2 ⟨rfl, hb2⟩; replace HB := hid (HB.out.step hb2); replace hok := hok.step hb2; clear hb2)
        have HX := hid (RLoc.new w2 (x1, x2, x3, x4, x5, x6, x7) 26)
        replace HB := hid (HB.out.step ((Below.refl _ _).alloc (Nat.le_refl _) _ : Below w2.heap.size w2 (w2.alloc (.cells #[.int .i64 x1, .int .i64 x2, .int .i64 x3, .int .i64 x4, .int .i64 x5, .int .i64 x6, .int .i64 x7] 26))))
        have hok2 : Ok w.heap.size w (w2.alloc (.cells #[.int .i64 x1, .int .i64 x2, .int .i64 x3, .int .i64 x4, .int .i64 x5, .int .i64 x6, .int .i64 x7] 26)) := hok.alloc
        have HOK := hid hok2
        clear hok hok2 hc'
        generalize w2.alloc (.cells #[.int .i64 x1, .int .i64 x2, .int .i64 x3, .int .i64 x4, .int .i64 x5, .int .i64 x6, .int .i64 x7] 26) = W2 at *
        generalize w2.heap.size = lb at *
        have HXD : Hid (RLoc lb (x1, x2, x3, x4, x5, x6, x7) W2.drew) := HX.out.of_block rfl
        have HBD := hid (HB.out.step ((Below.refl _ _).drew : Below W2.heap.size W2 W2.drew))
        have HOD := hid (HOK.out.step ((Below.refl _ _).drew : Below W2.heap.size W2 W2.drew))
        clear HB HOK
        have hwr : IntKind.i64.wrap r = r := by rw [IntKind.wrap_i64]; omega
        go_region_held3 (fun w' => w'.cell? ⟨lb, 3, none⟩ = some (.int .i64 x4) ∧ w'.cell? ⟨lb, 4, none⟩ = some (.int .i64 x5) ∧ w'.cell? ⟨lb, 5, none⟩ = some (.int .i64 x6) ∧ w'.cell? ⟨lb, 6, none⟩ = some (.int .i64 x7))
          (first | exact HXD.out | exact HX.out)
          (first | (go_at_call 10; refine (HAs.out.kind _ HBD.out).mono ?_; rintro e w' ⟨rfl, hb'⟩; replace HXD := hid (HXD.out.step hb'); replace HBD := hid (HBD.out.step hb'); replace HOD := hid (HOD.out.step hb'); clear hb') | (go_at_call 12; refine (HAs.out.bidi _ HBD.out).mono ?_; rintro e w' ⟨rfl, hb'⟩; replace HXD := hid (HXD.out.step hb'); replace HBD := hid (HBD.out.step hb'); replace HOD := hid (HOD.out.step hb'); clear hb') | (go_at_call 13; refine (HAs.out.script _ HBD.out).mono ?_; rintro e w' ⟨rfl, hb'⟩; replace HXD := hid (HXD.out.step hb'); replace HBD := hid (HBD.out.step hb'); replace HOD := hid (HOD.out.step hb'); clear hb') | (go_at_call 14; refine (HAs.out.cls _ HBD.out).mono ?_; rintro e w' ⟨rfl, hb'⟩; replace HXD := hid (HXD.out.step hb'); replace HBD := hid (HBD.out.step hb'); replace HOD := hid (HOD.out.step hb'); clear hb') | (go_at_call 15; refine (HAs.out.join _ HBD.out).mono ?_; rintro e w' ⟨rfl, hb'⟩; replace HXD := hid (HXD.out.step hb'); replace HBD := hid (HBD.out.step hb'); replace HOD := hid (HOD.out.step hb'); clear hb') | (go_at_call 11; refine (HKd.out _).mono ?_; rintro e w' ⟨rfl, hb'⟩; replace HXD := hid (HXD.out.step hb'); replace HBD := hid (HBD.out.step hb'); replace HOD := hid (HOD.out.step hb'); clear hb'))
        go_wp2_with fail
        go_roundg (zs.length - (k + 1))
        case measure => rw [HG.out]; omega
        case rel => exact ⟨k + 1, by omega, rfl, by go_num, HOD.out, HBD.out⟩
      · go_wp2_with fail
        refine (awake_any HB.out HA.out).mono ?_
        rintro e w2 ⟨rfl, hb2⟩
        replace hok := hok.step hb2
        go_wp2_with fail
        go_ret
        exact ⟨rfl, hok.1⟩

set_option maxRecDepth 100000 in
theorem lifted (os : Os) (started : os.Started) (H : Type) (enc : TypeId × Value → H) :
    ReturnsInHanded {} Try.checked os 3 .any (Rows.ucdTellsSpec.pre6 enc Try.prog Try.f3 Rows.ucdTellsRow.domain false) (Rows.ucdTellsSpec.post enc Try.prog Try.f3 false true false false) := by
  refine returnsInHanded_of_change (C := Try.checked) own started (by kernel_rfl) Try.func3
    (ChangeSpec.witness6 (enc := enc) (C := Try.checked) false ⟨#[], #[.slice none 0 0], []⟩ 8 (by kernel_rfl) (by kernel_rfl) (by kernel_rfl) (by kernel_rfl)) ?_
  intro W base args ds gs before hval0 hW hcnd _
  have hval : ∀ (j : Nat) t v, Try.f3.params[j]? = some t → args[j]? = some v → Value.okWide Try.prog W .any base t v := hval0
  have hW' := hW
  obtain ⟨p, q, hA0, hV, rfl, hfz, hnd⟩ := hW
  have hA : DataW.TrodAll enc Try.prog W 0 (fun _ => true) true Try.f3.params.toList args.toList ds p := hA0
  rw [Try.params3] at hA hval
  obtain ⟨v0, vs0, d0, ds0, p0, q0, hargs, rfl, rfl, h0, r0⟩ := trodAll_cons hA
  obtain ⟨rfl, rfl, rfl⟩ := trodAll_nil r0
  obtain rfl : args = #[v0] := by cases args; simp_all
  obtain ⟨rfl, rfl⟩ := trodVars_none hV
  obtain ⟨a0, len0, cap0, rfl⟩ := okWide_slice Try.underlying22 (hval 0 22 v0 rfl rfl)
  have k0 := h0
  have lt0 : ∀ x ∈ p0, x.block < W.heap.size := by obtain ⟨m, hm⟩ := k0; exact DataW.trod_lt m _ _ _ hm
  obtain ⟨z0, w0⟩ : ∃ zs, IsRow .i32 W a0 len0 cap0 zs := by
    obtain ⟨fuel, hf⟩ := h0
    rcases open_ints Try.underlying22 Try.underlying21 (by kernel_rfl) hf with ⟨hcs, _⟩ | ⟨x, l, c, zs, hcs, _, hl, hm, hz, _, hcell, hwz⟩
    · simp [Value.cells] at hcs
      obtain ⟨rfl, rfl, rfl⟩ := hcs
      exact ⟨[], .inl ⟨rfl, rfl, rfl, rfl⟩⟩
    · simp [Value.cells] at hcs
      obtain ⟨rfl, rfl, rfl⟩ := hcs
      exact ⟨zs, .inr ⟨_, rfl, hl, hm, by simpa using hz, hcell, hwz⟩⟩
  clear hA0 hval0
  refine (walk a0 len0 cap0 z0 W w0).mono fun e W' ⟨he, bel⟩ => ?_
  subst he
  exact ⟨_, rfl, _, _, _, [], _, [], hW', trodAll_mk1 (shut_bool Try.underlying4 _), (trodAll_cons_mk (Below.trod laidOut (by kernel_rfl) (of_decide_eq_true (by kernel_rfl)) k0 bel lt0) trodAll_mk0), rfl, bel.frame _, fun h => by cases h⟩

theorem over : Rows.ucdTellsRow.holds Try.pinned (OpenSpec.ofChange Rows.ucdTellsSpec) :=
  OpenClaim.holds_of_wide 3 Try.f3 rfl rfl rfl rfl rfl rfl rfl ⟨rfl, rfl, rfl, rfl, rfl⟩ rfl rfl rfl rfl rfl (by kernel_rfl) Try.func3 (by kernel_rfl)
    (of_decide_eq_true (by kernel_rfl)) (by unfold Func.isWrapper; first | (rw [if_pos (by decide +kernel)]; kernel_rfl) | (rw [if_neg (by decide +kernel)]; exact ⟨rfl, rfl⟩))
    (fun os started H enc _ => lifted os started H enc)

end Go.Proofs.Ytfbphacbnmimkaa.ucdTells
namespace Go.Proofs.Ytfbphacbnmimkaa
theorem ucdTells_holds : Rows.UcdTellsSaid := ucdTells.over
#print axioms ucdTells_holds
end Go.Proofs.Ytfbphacbnmimkaa
