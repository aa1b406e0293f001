/-
  For every string s the law IpShort returns true, and s reads behind the call as it read before; the listed variables of the library hold what the program's text lays in them. No other condition.
-/
import Derived.Test.YteimhepmcjdbpaaDoorRows
import Derived.Test.YteimhepmcjdbpaaDoorIp14
import Derived.Test.YteimhepmcjdbpaaDoorIpD
import Derived.Test.YteimhepmcjdbpaaDoorTie
import Derived.Test.YteimhepmcjdbpaaDoorCards
import Derived.SevenTiedAt
import Derived.Handed
import Derived.SizedLaws
import Derived.WalkKit
import Derived.ProofKit
import Derived.OpenShut
import Derived.ShutString
import Derived.ChangeOld
import Derived.Below
namespace Go.Proofs.YteimhepmcjdbpaaDoor.ipShort
open Go.ChangeShapes Go.WideShapes Go.ChangeAt Go.RowKit
open Go.ChangeMaps (open_string shut_string)
set_option linter.unusedVariables false

theorem own : ownKnob Tryd.prog.godebug = none := Ip.own

open Ip in
set_option maxRecDepth 100000 in
set_option maxHeartbeats 4000000 in
theorem walk (a0 : ByteArray) (w0 : a0.size ≤ maxLen) (w : World) (hg : Ip.Gl w) (hd : Ip.Db w) :
    Calls Tryd.prog 3 #[.string a0] w fun e w' => e = .returned (.bool true) ∧ Below w.heap.size w w' := by
  have hok := Ok.start w
  have HA := Ip.hid (fun W (h : Below w.heap.size w W) => awake_any W (hg.step h) (hd.step h))
  by_cases h : 80 < a0.size
  · go_enter Tryd.func3, Tryd.ntmps3
    go_wp2_with fail
    refine (HA.out _ hok.1).mono ?_
    rintro e w1 ⟨rfl, hb⟩
    replace hok := hok.step hb
    clear hb
    go_wp2_with fail
    go_ret
    exact ⟨rfl, hok.1⟩
  have H1 := v6_any a0 w (by omega) hg
  obtain ⟨x0, x1, x2, x3, x4, x5, x6, x7, k3, e3⟩ := v6L_eight a0.data.toList
  have hbd := (v6L_bd a0.data.toList).2
  have hsh := short_len a0.data.toList
  rw [e3] at H1 hbd hsh
  have H5 : Hid (Calls Tryd.prog 5 #[.string a0] w fun e w' => e = .returned (.tuple #[.agg #[.int .u16 x0, .int .u16 x1, .int .u16 x2, .int .u16 x3, .int .u16 x4, .int .u16 x5, .int .u16 x6, .int .u16 x7], .bool k3]) ∧ Below w.heap.size w w') := H1
  have HT := Ip.hid (fun W (h : Below w.heap.size w W) => text6_any x0 x1 x2 x3 x4 x5 x6 x7 W hbd (hd.step h))
  have HSH : Hid (k3 = true → (46 : UInt8) ∉ a0.data.toList → ((⟨(tx6 [x0, x1, x2, x3, x4, x5, x6, x7]).toArray⟩ : ByteArray).size : Int) ≤ (a0.size : Int) + 1) := by
    intro h1 h2
    have := hsh h1 h2
    rw [len_size] at this
    show ((tx6 [x0, x1, x2, x3, x4, x5, x6, x7]).toArray.size : Int) ≤ _
    rw [List.size_toArray]
    simp only at this
    omega
  clear H1 e3 hbd hsh hg hd
  generalize (⟨(tx6 [x0, x1, x2, x3, x4, x5, x6, x7]).toArray⟩ : ByteArray) = tt at *
  go_enter Tryd.func3, Tryd.ntmps3
  go_wp2_with fail
  refine H5.out.mono ?_
  rintro e w2 ⟨rfl, hb⟩
  have HL := Ip.hid (Li.new w2 #[.int .u16 x0, .int .u16 x1, .int .u16 x2, .int .u16 x3, .int .u16 x4, .int .u16 x5, .int .u16 x6, .int .u16 x7] 24)
  have HO := Ip.hid ((hok.step hb).alloc (o := .cells #[.int .u16 x0, .int .u16 x1, .int .u16 x2, .int .u16 x3, .int .u16 x4, .int .u16 x5, .int .u16 x6, .int .u16 x7] 24))
  clear hb hok H5
  go_upto_region 4 with fail
  obtain ⟨e0, _⟩ := HL.out.at 0 _ rfl
  obtain ⟨e1, _⟩ := HL.out.at 1 _ rfl
  obtain ⟨e2, _⟩ := HL.out.at 2 _ rfl
  obtain ⟨e3, _⟩ := HL.out.at 3 _ rfl
  obtain ⟨e4, _⟩ := HL.out.at 4 _ rfl
  obtain ⟨e5, _⟩ := HL.out.at 5 _ rfl
  obtain ⟨e6, _⟩ := HL.out.at 6 _ rfl
  obtain ⟨e7, _⟩ := HL.out.at 7 _ rfl
  generalize w2.alloc (.cells #[.int .u16 x0, .int .u16 x1, .int .u16 x2, .int .u16 x3, .int .u16 x4, .int .u16 x5, .int .u16 x6, .int .u16 x7] 24) = w3 at *
  clear HL
  go_wp2_with fail
  go_loop [5] (fun i => ∃ k : Nat, k ≤ a0.size ∧ i = .int .i64 k ∧ Hid (∀ x ∈ a0.data.toList.take k, x ≠ 46)) (fun i => a0.size - (intOf i).toNat)
  case atStart => exact ⟨0, Nat.zero_le _, rfl, (by intro x hx; simp at hx)⟩
  case round =>
    obtain ⟨k, hk, rfl, hin⟩ := hrel
    by_cases hlt : k < a0.size
    · by_cases hx : a0[k] = 46
      · have hx' : ((a0[k].toNat : Int) == 46) = true := by rw [hx]; rfl
        clear hx
        go_wp2_with fail
        refine (HA.out _ HO.out.1).mono ?_
        rintro e w4 ⟨rfl, hb⟩
        have HF := Ip.hid (HO.out.step hb).1
        clear hb
        go_wp2_with fail
        go_ret
        exact ⟨rfl, HF.out⟩
      · have hx' : ((a0[k].toNat : Int) == 46) = false := by
          rw [beq_eq_false_iff_ne]; intro e; exact hx (UInt8.toNat_inj.1 (by show a0[k].toNat = 46; omega))
        have H : Hid (∀ x ∈ a0.data.toList.take (k + 1), x ≠ 46) := by
          intro x h; rw [take_snoc a0 k hlt, List.mem_append] at h
          rcases h with h | h
          · exact hin.out x h
          · simp at h; subst h; exact hx
        clear hx
        go_wp2_with fail
        go_round
        case rel => exact ⟨k + 1, by omega, by go_num, H⟩
        case measure => simp [intOf]; omega
    · have hno : (46 : UInt8) ∉ a0.data.toList := by
        intro h
        have h2 : a0.data.toList.take k = a0.data.toList := List.take_of_length_le (by rw [len_size]; omega)
        exact hin.out 46 (by rw [h2]; exact h) rfl
      cases k3
      · clear hno HSH
        go_wp2_with fail
        refine (HA.out _ HO.out.1).mono ?_
        rintro e w4 ⟨rfl, hb⟩
        have HF := Ip.hid (HO.out.step hb).1
        clear hb
        go_wp2_with fail
        go_ret
        exact ⟨rfl, HF.out⟩
      · have hle := HSH.out rfl hno
        clear hno HSH
        go_wp2_with fail
        refine (HT.out _ HO.out.1).mono ?_
        rintro e w4 ⟨rfl, hb⟩
        have HO4 := Ip.hid (HO.out.step hb)
        clear hb
        go_wp2_with fail
        refine (HA.out _ HO4.out.1).mono ?_
        rintro e w5 ⟨rfl, hb⟩
        have HF := Ip.hid (HO4.out.step hb).1
        clear hb
        go_wp2_with fail
        go_ret
        exact ⟨rfl, HF.out⟩

set_option maxRecDepth 100000 in
theorem lifted (os : Os) (started : os.Started) (H : Type) (enc : TypeId × Value → H) :
    ReturnsInHanded {} Tryd.checked os 3 .any (fun w args => (Rows.ipShortSpec.pre enc Tryd.prog Tryd.f3 [] false w args ∧ laidMetH Tryd.prog Ip.doorL w) ∧ sizedMet enc Tryd.prog Tryd.f3 (OpenSpec.ofChange Rows.ipShortSpec) false w args) (Rows.ipShortSpec.post enc Tryd.prog Tryd.f3 false true false false) := by
  have contract : ∀ (W : World) (base : Nat) (args : Array Value) (ds gs : List (DataW H)) (before : List MemPlace),
      (∀ (j : Nat) t v, Tryd.f3.params[j]? = some t → args[j]? = some v → Value.okWide Tryd.prog W .any base t v) → DataW.Whole enc Tryd.prog Tryd.f3.params.toList Rows.ipShortSpec.vars false W args.toList ds gs before →
      laidMetH Tryd.prog Ip.doorL W → W.ShapedOpen Tryd.prog → Calls Tryd.prog 3 args W fun e W' => ∃ v, e = .returned v ∧ Rows.ipShortSpec.post enc Tryd.prog Tryd.f3 false true false false W args v W' := by
    intro W base args ds gs before hval0 hW hL hsh
    have hgl : Ip.Gl W := ⟨Ip.max_of hsh, Ip.size_of hsh⟩
    have hdb : Ip.Db W := ⟨Ip.db_of hL, Ip.size_of hsh⟩
    have hval : ∀ (j : Nat) t v, Tryd.f3.params[j]? = some t → args[j]? = some v → Value.okWide Tryd.prog W .any base t v := hval0
    have hW' := hW
    obtain ⟨p, q, hA0, hV, rfl, hfz, hnd⟩ := hW
    have hA : DataW.TrodAll enc Tryd.prog W 0 (fun _ => true) true Tryd.f3.params.toList args.toList ds p := hA0
    rw [Tryd.params3] at hA hval
    obtain ⟨v0, vs0, d0, ds0, p0, q0, hargs, rfl, rfl, h0, r0⟩ := trodAll_cons hA
    obtain ⟨rfl, rfl, rfl⟩ := trodAll_nil r0
    obtain rfl : args = #[v0] := by cases args; simp_all
    obtain ⟨rfl, rfl⟩ := trodVars_none hV
    obtain ⟨a0, rfl, rfl, rfl, w0⟩ := open_string Tryd.underlying9 (hval 0 9 v0 rfl rfl) h0
    clear hA0 hval0
    refine (walk a0 w0 W hgl hdb).mono fun e W' ⟨he, bel⟩ => ?_
    subst he
    exact ⟨_, rfl, _, _, _, [], _, [], hW', trodAll_mk1 (shut_bool Tryd.underlying4 _), (trodAll_cons_mk (shut_string Tryd.underlying9 w0) trodAll_mk0), rfl, bel.frame _, fun h => by cases h⟩
  refine returnsInHanded_of_calls own started (by kernel_rfl) (ChangeSpec.witness_shaped (enc := enc) (C := Tryd.checked) (os := os) (X := fun w _ => laidMetH Tryd.prog Ip.doorL w) false (World.doorLaid Tryd.prog 62 os) #[.string ByteArray.empty] 8 rfl (World.shaped_of_RefB (by kernel_rfl) (by kernel_rfl)) (by kernel_rfl) (by kernel_rfl) (by kernel_rfl) (Ip.door_met os _)) ?_
  intro w tape i _ hsh _ hok hpre _
  obtain ⟨_, _, _, fn', hfn', _, _, _, _, hval0⟩ := hok
  obtain rfl : fn' = Tryd.f3 := Option.some.inj (hfn'.symm.trans Tryd.func3)
  obtain ⟨⟨⟨ds, gs, before, hw1, _⟩, hL⟩, _⟩ := hpre
  have hW := DataW.Whole.of_heap (w' := w.forCall tape i) (by rfl) hw1
  refine (contract (w.forCall tape i) w.heap.size i.args ds gs before hval0 hW (hL.of_heap (by rfl)) hsh).mono fun e W' ⟨v, he, hp⟩ => ?_
  subst he
  exact ChangeSpec.post_blind hp


theorem over : Rows.ipShortRow.holds Tryd.pinned (OpenSpec.ofChange Rows.ipShortSpec) :=
  OpenClaim.holds_of_wide 3 Tryd.f3 rfl rfl rfl rfl rfl rfl rfl ⟨rfl, rfl, rfl, rfl, rfl⟩ rfl rfl rfl rfl rfl (by kernel_rfl) Tryd.func3 (by kernel_rfl)
    (of_decide_eq_true (by kernel_rfl)) (by unfold Func.isWrapper; first | (rw [if_pos (by decide +kernel)]; kernel_rfl) | (rw [if_neg (by decide +kernel)]; exact ⟨rfl, rfl⟩))
    (fun os started H enc _ => lifted os started H enc)

end Go.Proofs.YteimhepmcjdbpaaDoor.ipShort
namespace Go.Proofs.YteimhepmcjdbpaaDoor
theorem ipShortCard_holds : Rows.IpShortCardSaid :=
  Claim7.holds_tied_plain_at .later [] [.data, .data, .data, .sentinel, .sentinel] true (true, "98eecd0bbb2b88ec44d5fd7e894df014087ec9e178a375ecaf6bc24aa737661b") true
    ipShort.over (fun _ h => by cases h) (by kernel_rfl) (fun _ h => by cases h) ipShort_row_tie rfl ⟨rfl, rfl⟩ (by kernel_rfl) rfl
    (fun f fn hf hfn => by
      obtain rfl : f = 3 := Option.some.inj ((show Tryd.prog.funcNamed "moniker/monikerlaw19.IpShort" = some 3 by kernel_rfl).symm.trans hf) |>.symm
      obtain rfl : fn = Tryd.f3 := (Option.some.inj (Tryd.func3.symm.trans hfn)).symm
      exact ⟨by kernel_rfl, fun j t ht => by
        rw [Tryd.params3] at ht
        have hm : t ∈ [9] := by simpa using Array.mem_of_getElem? ht
        have hall : ([9].all fun u => !Tryd.prog.wantsStandIn u) = true := by kernel_rfl
        exact (show Tryd.prog.wantsStandIn t = false by simpa using List.all_eq_true.1 hall t hm)⟩)
    (by kernel_rfl)
#print axioms ipShortCard_holds
end Go.Proofs.YteimhepmcjdbpaaDoor
