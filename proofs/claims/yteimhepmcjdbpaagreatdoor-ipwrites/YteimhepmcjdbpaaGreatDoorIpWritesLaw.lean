/-
  For every array a of four bytes and every array b of eight 16-bit words the law IpWrites returns true, and both read behind the call as they read before; the listed variables of the library hold what the program's text lays in them. No other condition.
-/
import Derived.Test.YteimhepmcjdbpaaGreatDoorRows
import Derived.Test.YteimhepmcjdbpaaGreatDoorIp32
import Derived.Test.YteimhepmcjdbpaaGreatDoorIpD
import Derived.Test.YteimhepmcjdbpaaGreatDoorTie
import Derived.Test.YteimhepmcjdbpaaGreatDoorCards
import Derived.SevenTiedAt
import Derived.Handed
import Derived.SizedLaws
import Derived.WalkKit
import Derived.ProofKit
import Derived.OpenShut
import Derived.ShutString
import Derived.ChangeOld
import Derived.Below
namespace Go.Proofs.YteimhepmcjdbpaaGreatDoor.ipWrites
open Go.ChangeShapes Go.WideShapes Go.ChangeAt Go.RowKit
open Go.ChangeMaps (open_string shut_string)
set_option linter.unusedVariables false

theorem own : ownKnob Tryz.prog.godebug = none := Ip.own

open Ip in
set_option maxRecDepth 100000 in
theorem walk (a b c d x0 x1 x2 x3 x4 x5 x6 x7 : Int) (w0 : ∀ x ∈ [a, b, c, d], 0 ≤ x ∧ x ≤ 255) (w1 : ∀ x ∈ [x0, x1, x2, x3, x4, x5, x6, x7], 0 ≤ x ∧ x ≤ 65535) (w : World) (hg : Ip.Gl w) (hd : Ip.Db w) (ht : Ip.Tb w) :
    Calls Tryz.prog 5 #[.agg #[.int .u8 a, .int .u8 b, .int .u8 c, .int .u8 d], .agg #[.int .u16 x0, .int .u16 x1, .int .u16 x2, .int .u16 x3, .int .u16 x4, .int .u16 x5, .int .u16 x6, .int .u16 x7]] w fun e w' => e = .returned (.bool true) ∧ Below w.heap.size w w' := by
  exact writes_any a b c d x0 x1 x2 x3 x4 x5 x6 x7 w w0 w1 hg hd ht

theorem laidOut : laidOutB Tryz.prog = true := by kernel_rfl

set_option maxRecDepth 100000 in
theorem lifted (os : Os) (started : os.Started) (H : Type) (enc : TypeId × Value → H) :
    ReturnsInHanded {} Tryz.checked os 5 .any (fun w args => (Rows.ipWritesSpec.pre enc Tryz.prog Tryz.f5 [] false w args ∧ laidMetH Tryz.prog Ip.doorL w) ∧ sizedMet enc Tryz.prog Tryz.f5 (OpenSpec.ofChange Rows.ipWritesSpec) false w args) (Rows.ipWritesSpec.post enc Tryz.prog Tryz.f5 false true false false) := by
  have contract : ∀ (W : World) (base : Nat) (args : Array Value) (ds gs : List (DataW H)) (before : List MemPlace),
      (∀ (j : Nat) t v, Tryz.f5.params[j]? = some t → args[j]? = some v → Value.okWide Tryz.prog W .any base t v) → DataW.Whole enc Tryz.prog Tryz.f5.params.toList Rows.ipWritesSpec.vars false W args.toList ds gs before →
      laidMetH Tryz.prog Ip.doorL W → W.ShapedOpen Tryz.prog → Calls Tryz.prog 5 args W fun e W' => ∃ v, e = .returned v ∧ Rows.ipWritesSpec.post enc Tryz.prog Tryz.f5 false true false false W args v W' := by
    intro W base args ds gs before hval0 hW hL hsh
    have hgl : Ip.Gl W := ⟨Ip.max_of hsh, Ip.size_of hsh⟩
    have hdb : Ip.Db W := ⟨Ip.db_of hL, Ip.size_of hsh⟩
    have htb : Ip.Tb W := Ip.tb_of hL (Ip.size_of hsh)
    have hval : ∀ (j : Nat) t v, Tryz.f5.params[j]? = some t → args[j]? = some v → Value.okWide Tryz.prog W .any base t v := hval0
    have hW' := hW
    obtain ⟨p, q, hA0, hV, rfl, hfz, hnd⟩ := hW
    have hA : DataW.TrodAll enc Tryz.prog W 0 (fun _ => true) true Tryz.f5.params.toList args.toList ds p := hA0
    rw [Tryz.params5] at hA hval
    obtain ⟨v0, vs0, d0, ds0, p0, q0, hargs, rfl, rfl, h0, r0⟩ := trodAll_cons hA
    obtain ⟨v1, vs1, d1, ds1, p1, q1, rfl, rfl, rfl, h1, r1⟩ := trodAll_cons r0
    obtain ⟨rfl, rfl, rfl⟩ := trodAll_nil r1
    obtain rfl : args = #[v0, v1] := by cases args; simp_all
    obtain ⟨rfl, rfl⟩ := trodVars_none hV
    have k0 := h0
    have k1 := h1
    have lt0 : ∀ x ∈ p0, x.block < W.heap.size := by obtain ⟨m, hm⟩ := k0; exact DataW.trod_lt m _ _ _ hm
    have lt1 : ∀ x ∈ p1, x.block < W.heap.size := by obtain ⟨m, hm⟩ := k1; exact DataW.trod_lt m _ _ _ hm
    obtain ⟨a, b, c, d, e0, w0⟩ := Ip.open_b4 (hval 0 23 v0 rfl rfl) h0
    obtain ⟨x0, x1, x2, x3, x4, x5, x6, x7, e1, w1⟩ := Ip.open_w8 (hval 1 27 v1 rfl rfl) h1
    clear hA0 hval0
    have hwalk := walk a b c d x0 x1 x2 x3 x4 x5 x6 x7 w0 w1 W hgl hdb htb
    rw [← e0, ← e1] at hwalk
    refine hwalk.mono fun e W' ⟨he, bel⟩ => ?_
    subst he
    exact ⟨_, rfl, _, _, _, [], _, [], hW', trodAll_mk1 (shut_bool Tryz.underlying4 _), (trodAll_cons_mk (Below.trod laidOut (by kernel_rfl) (of_decide_eq_true (by kernel_rfl)) k0 bel lt0) (trodAll_cons_mk (Below.trod laidOut (by kernel_rfl) (of_decide_eq_true (by kernel_rfl)) k1 bel lt1) trodAll_mk0)), rfl, bel.frame _, fun h => by cases h⟩
  refine returnsInHanded_of_calls own started (by kernel_rfl) (ChangeSpec.witness_shaped (enc := enc) (C := Tryz.checked) (os := os) (X := fun w _ => laidMetH Tryz.prog Ip.doorL w) false (World.doorLaid Tryz.prog 62 os) #[.agg #[.int .u8 0, .int .u8 0, .int .u8 0, .int .u8 0], .agg #[.int .u16 0, .int .u16 0, .int .u16 0, .int .u16 0, .int .u16 0, .int .u16 0, .int .u16 0, .int .u16 0]] 8 rfl (World.shaped_of_RefB (by kernel_rfl) (by kernel_rfl)) (by kernel_rfl) (by kernel_rfl) (by kernel_rfl) (Ip.door_met os _)) ?_
  intro w tape i _ hsh _ hok hpre _
  obtain ⟨_, _, _, fn', hfn', _, _, _, _, hval0⟩ := hok
  obtain rfl : fn' = Tryz.f5 := Option.some.inj (hfn'.symm.trans Tryz.func5)
  obtain ⟨⟨⟨ds, gs, before, hw1, _⟩, hL⟩, _⟩ := hpre
  have hW := DataW.Whole.of_heap (w' := w.forCall tape i) (by rfl) hw1
  refine (contract (w.forCall tape i) w.heap.size i.args ds gs before hval0 hW (hL.of_heap (by rfl)) hsh).mono fun e W' ⟨v, he, hp⟩ => ?_
  subst he
  exact ChangeSpec.post_blind hp


theorem over : Rows.ipWritesRow.holds Tryz.pinned (OpenSpec.ofChange Rows.ipWritesSpec) :=
  OpenClaim.holds_of_wide 5 Tryz.f5 rfl rfl rfl rfl rfl rfl rfl ⟨rfl, rfl, rfl, rfl, rfl⟩ rfl rfl rfl rfl rfl (by kernel_rfl) Tryz.func5 (by kernel_rfl)
    (of_decide_eq_true (by kernel_rfl)) (by unfold Func.isWrapper; first | (rw [if_pos (by decide +kernel)]; kernel_rfl) | (rw [if_neg (by decide +kernel)]; exact ⟨rfl, rfl⟩))
    (fun os started H enc _ => lifted os started H enc)

end Go.Proofs.YteimhepmcjdbpaaGreatDoor.ipWrites
namespace Go.Proofs.YteimhepmcjdbpaaGreatDoor
theorem ipWritesCard_holds : Rows.IpWritesCardSaid :=
  Claim7.holds_tied_plain_at .later [] [.data, .data, .data, .sentinel, .sentinel] true (true, "95bd87c652bd2167e950c266a3ac10a81be2466dcd80aa03412fa02dcff9c5fe") true
    ipWrites.over (fun _ h => by cases h) (by kernel_rfl) (fun _ h => by cases h) ipWrites_row_tie rfl ⟨rfl, rfl⟩ (by kernel_rfl) rfl
    (fun f fn hf hfn => by
      obtain rfl : f = 5 := Option.some.inj ((show Tryz.prog.funcNamed "moniker/monikerlaw19.IpWrites" = some 5 by kernel_rfl).symm.trans hf) |>.symm
      obtain rfl : fn = Tryz.f5 := (Option.some.inj (Tryz.func5.symm.trans hfn)).symm
      exact ⟨by kernel_rfl, fun j t ht => by
        rw [Tryz.params5] at ht
        have hm : t ∈ [23, 27] := by simpa using Array.mem_of_getElem? ht
        have hall : ([23, 27].all fun u => !Tryz.prog.wantsStandIn u) = true := by kernel_rfl
        exact (show Tryz.prog.wantsStandIn t = false by simpa using List.all_eq_true.1 hall t hm)⟩)
    (by kernel_rfl)
#print axioms ipWritesCard_holds
end Go.Proofs.YteimhepmcjdbpaaGreatDoor
