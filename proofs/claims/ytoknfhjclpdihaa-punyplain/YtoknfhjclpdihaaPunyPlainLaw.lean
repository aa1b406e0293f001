/-
  For every text s the law PunyPlain returns true. No condition.
-/
import Derived.Test.YtoknfhjclpdihaaRows
import Derived.Test.YtoknfhjclpdihaaPu30
import Derived.WalkKit
import Derived.ProofKit
import Derived.OpenShut
import Derived.ShutString
import Derived.ChangeOld
import Derived.Below
namespace Go.Proofs.Ytoknfhjclpdihaa.punyPlain
open Go.ChangeShapes Go.WideShapes Go.ChangeAt Go.RowKit
open Go.ChangeMaps (open_string shut_string)
set_option linter.unusedVariables false

theorem own : ownKnob Try.prog.godebug = none := by kernel_rfl

open Pu in
theorem mk_ck : (List.range 256).all (fun n => decide (0 ≤ bits BinOp.and IntKind.u8 (n : Int) 127) && decide (bits BinOp.and IntKind.u8 (n : Int) 127 ≤ 127)) = true := by kernel_rfl
open Pu in
def mk (b : Int) : Int := bits BinOp.and IntKind.u8 b 127
open Pu in
theorem mk_bd (n : Nat) (h : n < 256) : 0 ≤ mk (n : Int) ∧ mk (n : Int) ≤ 127 := by
  have h := List.all_eq_true.1 mk_ck n (List.mem_range.2 h)
  rw [Bool.and_eq_true, decide_eq_true_eq, decide_eq_true_eq] at h
  exact h
open Pu in
theorem M_get (s : ByteArray) (k : Nat) (h : k < s.size) (h' : k < ((bsI s).map mk).length) : ((bsI s).map mk)[k] = mk (s[k].toNat : Int) := by
  rw [List.getElem_map, bsI_get s k h]
open Pu in
theorem M_bd (s : ByteArray) : ∀ z ∈ (bsI s).map mk, 0 ≤ z ∧ z ≤ 127 := by
  intro z hz
  obtain ⟨k, hk, rfl⟩ := List.mem_iff_getElem.1 hz
  have hk' : k < s.size := by rw [List.length_map, bsI_len] at hk; exact hk
  rw [M_get s k hk' hk]
  exact mk_bd _ (s[k].toNat_lt)
theorem drewN_below (w : World) : ∀ n, Below w.heap.size w (w.drewN n) := fun n => ⟨rfl, rfl, rfl, Nat.le_refl _, fun _ _ => rfl⟩
open Pu in
theorem T_get (L : List Int) (hL : ∀ x ∈ L, 0 ≤ x ∧ x ≤ 255) (k : Nat) (h : k < (byt L).size) (h' : k < L.length) : ((byt L)[k].toNat : Int) = L[k] := by
  have h1 := bsI_get (byt L) k h
  have h2 := bsI_byt L hL
  rw [← h1]
  simp only [h2]
open Pu in
set_option maxHeartbeats 8000000 in
set_option maxRecDepth 100000 in
theorem walk (a0 : ByteArray) (w0 : a0.size ≤ maxLen) (w : World) :
    Calls Try.prog 6 #[.string a0] w fun e w' => e = .returned (.bool true) ∧ Below w.heap.size w w' := by
  have HO := hid (Ok.start w)
  have HAw := hid awake11_any
  by_cases hl : 60 < a0.size
  · go_enter Try.func6, Try.ntmps6
    go_wp2_with fail
    refine (HAw.out _).mono ?_
    rintro e w' ⟨rfl, hb⟩
    replace HO := hid (HO.out.step hb)
    clear hb
    go_wp2_with fail
    go_ret
    exact ⟨rfl, HO.out.1⟩
  · have HMl : Hid (((bsI a0).map mk).length = a0.size) := by show _ = _; rw [List.length_map, bsI_len]
    have HMb := hid (M_bd a0)
    have HMg := hid (fun k h h' => M_get a0 k h h')
    generalize hM : (bsI a0).map mk = M at *
    clear hM
    go_enter Try.func6, Try.ntmps6
    go_wp2_with fail
    go_loopg [3, 4] a0.size (fun gg vo vi wr => ∃ k : Nat, vi = .int .i64 k ∧ k ≤ a0.size ∧ gg = a0.size - k ∧ Hid (wr.ownsRow w.heap.size 21 1 vo k (Od.ivs .i32 (M.take k)) ∧ Ok w.heap.size w wr))
    case atStart => exact ⟨0, rfl, Nat.zero_le _, rfl, World.ownsRow_nil _ _ _ _, HO.out⟩
    case round =>
      obtain ⟨k, rfl, hk, hg, H⟩ := hrel
      have HG := hid hg
      clear hg HO
      by_cases hlt : k < a0.size
      · have z1 : (k : Int) < (a0.size : Int) := by omega
        have hkM : k < M.length := by rw [HMl.out]; exact hlt
        have hx := HMb.out M[k] (List.getElem_mem hkM)
        have HT : Hid (Od.ivs .i32 (M.take (k + 1)) = Od.ivs .i32 (M.take k) ++ [.int .i32 M[k]]) := by show _ = _; rw [List.take_succ_eq_append_getElem hkM, Od.ivs_snoc]
        rw [HMg.out k hlt hkM] at hx HT
        unfold mk at hx HT
        generalize hbx : bits BinOp.and IntKind.u8 (a0[k].toNat : Int) 127 = x at *
        have q1 : wrap32 x = x := by unfold wrap32; omega
        go_wp2_with (at_builtin; refine Od.app_i32 rfl (.tmp 18) (.tmp 24) rfl wr w.heap.size k _ _ x rfl wr.heap.size rfl rfl H.out.1 (by omega) H.out.2.2 (fun v' w' h1 h2 => ?_))
        have H2 : Hid (w'.ownsRow w.heap.size 21 1 v' (k + 1) (Od.ivs .i32 (M.take (k + 1))) ∧ Ok w.heap.size w w') := ⟨by rw [HT.out]; exact h1, Od.ok_below h2 H.out.2⟩
        clear h1 h2
        go_roundg (a0.size - (k + 1))
        case measure => rw [HG.out]; omega
        case rel => exact ⟨k + 1, by go_num, by omega, rfl, H2.out⟩
      · have e : k = a0.size := by omega
        subst e
        have z1 : ¬ (a0.size : Int) < (a0.size : Int) := by omega
        have HS : Hid (Od.Sl .i32 wr u3 M) := by
          have h := H.out.1
          rw [List.take_of_length_le (by rw [HMl.out]; exact Nat.le_refl _)] at h
          rw [← HMl.out] at h
          exact Od.own_sl h
        have HO := hid H.out.2
        clear H HG hk hlt
        have HE := hid (enc_ok HS.out (by have := HMl.out; omega) (fun z hz => by have := HMb.out z hz; omega) (fun x hx => by have := enc_mem (by have := HMl.out; omega) (fun z hz => by have := HMb.out z hz; omega) x hx; omega))
        rw [enc_plain HMb.out, HMl.out] at HE
        by_cases h0 : a0.size = 0
        · rw [if_pos h0] at HE
          have hb0 : byt [] = ⟨#[]⟩ := rfl
          rw [hb0] at HE
          clear hb0
          have h0' : (a0.size : Int) = 0 := by omega
          go_wp2_with fail
          refine HE.out.mono ?_
          rintro e W1 ⟨rfl, hb⟩
          replace HO := hid (HO.out.step hb)
          clear hb HE HS
          go_wp2_with fail
          refine (HAw.out _).mono ?_
          rintro e w' ⟨rfl, hb⟩
          replace HO := hid (HO.out.step hb)
          clear hb
          go_wp2_with fail
          go_ret
          exact ⟨rfl, HO.out.1⟩
        · rw [if_neg h0] at HE
          have hLb : ∀ x ∈ M ++ [45], 0 ≤ x ∧ x ≤ 255 := by
            intro x hx
            rcases List.mem_append.1 hx with hx | hx
            · have := HMb.out x hx; omega
            · simp at hx; omega
          have hTs : (byt (M ++ [45])).size = a0.size + 1 := by rw [byt_size, List.length_append, HMl.out]; rfl
          have HTg : Hid (∀ k (h : k < a0.size) (h' : k < (byt (M ++ [45])).size), ((byt (M ++ [45]))[k].toNat : Int) = bits BinOp.and IntKind.u8 (a0[k].toNat : Int) 127) := fun k h h' => by
            have hkM : k < M.length := by rw [HMl.out]; exact h
            rw [T_get _ hLb k h' (by rw [List.length_append]; omega), List.getElem_append_left hkM, HMg.out k h hkM]
            rfl
          have HTl : Hid (∀ (h' : a0.size < (byt (M ++ [45])).size), ((byt (M ++ [45]))[a0.size].toNat : Int) = 45) := fun h' => by
            rw [T_get _ hLb _ h' (by rw [List.length_append, HMl.out]; simp), List.getElem_append_right (by rw [HMl.out]; exact Nat.le_refl _)]
            simp
          clear hLb
          generalize byt (M ++ [45]) = T at *
          have HTs := hid hTs
          clear hTs
          have h0' : ((a0.size : Int) == 0) = false := by simpa using h0
          have h0'' : ¬ (a0.size : Int) = 0 := by omega
          go_wp2_with fail
          refine HE.out.mono ?_
          rintro e W1 ⟨rfl, hb⟩
          replace HO := hid (HO.out.step hb)
          clear hb HE HS
          go_wp2_with fail
          go_loopg [7] a0.size (fun gg vi wr => ∃ k : Nat, k ≤ a0.size ∧ vi = .int .i64 k ∧ gg = a0.size - k ∧ Hid (Ok w.heap.size w wr))
          case atStart => exact ⟨0, Nat.zero_le _, rfl, rfl, HO.out⟩
          case round =>
            obtain ⟨k, hk, rfl, hg, HO⟩ := hrel
            have HG := hid hg
            clear hg
            by_cases hlt : k < a0.size
            · have z1 : (k : Int) < (a0.size : Int) := by omega
              have hkT : k < T.size := by have := HTs.out; omega
              have z2 : (k : Int) < (T.size : Int) := by omega
              have z3 : decide ((T.size : Int) ≤ (k : Int)) = false := decide_eq_false (by omega)
              have hx := HTg.out k hlt hkT
              generalize hbx : bits BinOp.and IntKind.u8 (a0[k].toNat : Int) 127 = x at *
              go_wp2_with fail
              go_quiet (fail)
              have HO2 := hid (HO.out.step (drewN_below wr nq))
              go_wp2_with fail
              go_roundg (a0.size - (k + 1))
              case measure => rw [HG.out]; omega
              case rel => exact ⟨k + 1, hlt, by go_num, rfl, HO2.out⟩
            · have z1 : ¬ (k : Int) < (a0.size : Int) := by omega
              have z2 : (T.size : Int) = (a0.size : Int) + 1 := by have := HTs.out; omega
              have z3 : a0.size < T.size := by have := HTs.out; omega
              have hx := HTl.out z3
              go_wp2_with fail
              refine (HAw.out _).mono ?_
              rintro e w' ⟨rfl, hb⟩
              replace HO := hid (HO.out.step hb)
              clear hb
              go_wp2_with fail
              go_ret
              exact ⟨rfl, HO.out.1⟩

set_option maxRecDepth 100000 in
theorem lifted (os : Os) (started : os.Started) (H : Type) (enc : TypeId × Value → H) :
    ReturnsInHanded {} Try.checked os 6 .any (Rows.punyPlainSpec.pre6 enc Try.prog Try.f6 Rows.punyPlainRow.domain false) (Rows.punyPlainSpec.post enc Try.prog Try.f6 false true false false) := by
  refine returnsInHanded_of_change (C := Try.checked) own started (by kernel_rfl) Try.func6
    (ChangeSpec.witness6 (enc := enc) (C := Try.checked) false ⟨#[], #[.string ByteArray.empty], []⟩ 8 (by kernel_rfl) (by kernel_rfl) (by kernel_rfl) (by kernel_rfl)) ?_
  intro W base args ds gs before hval0 hW hcnd _
  have hval : ∀ (j : Nat) t v, Try.f6.params[j]? = some t → args[j]? = some v → Value.okWide Try.prog W .any base t v := hval0
  have hW' := hW
  obtain ⟨p, q, hA0, hV, rfl, hfz, hnd⟩ := hW
  have hA : DataW.TrodAll enc Try.prog W 0 (fun _ => true) true Try.f6.params.toList args.toList ds p := hA0
  rw [Try.params6] at hA hval
  obtain ⟨v0, vs0, d0, ds0, p0, q0, hargs, rfl, rfl, h0, r0⟩ := trodAll_cons hA
  obtain ⟨rfl, rfl, rfl⟩ := trodAll_nil r0
  obtain rfl : args = #[v0] := by cases args; simp_all
  obtain ⟨rfl, rfl⟩ := trodVars_none hV
  obtain ⟨a0, rfl, rfl, rfl, w0⟩ := open_string Try.underlying9 (hval 0 9 v0 rfl rfl) h0
  clear hA0 hval0
  refine (walk a0 w0 W).mono fun e W' ⟨he, bel⟩ => ?_
  subst he
  exact ⟨_, rfl, _, _, _, [], _, [], hW', trodAll_mk1 (shut_bool Try.underlying4 _), (trodAll_cons_mk (shut_string Try.underlying9 w0) trodAll_mk0), rfl, bel.frame _, fun h => by cases h⟩

theorem over : Rows.punyPlainRow.holds Try.pinned (OpenSpec.ofChange Rows.punyPlainSpec) :=
  OpenClaim.holds_of_wide 6 Try.f6 rfl rfl rfl rfl rfl rfl rfl ⟨rfl, rfl, rfl, rfl, rfl⟩ rfl rfl rfl rfl rfl (by kernel_rfl) Try.func6 (by kernel_rfl)
    (of_decide_eq_true (by kernel_rfl)) (by unfold Func.isWrapper; first | (rw [if_pos (by decide +kernel)]; kernel_rfl) | (rw [if_neg (by decide +kernel)]; exact ⟨rfl, rfl⟩))
    (fun os started H enc _ => lifted os started H enc)

end Go.Proofs.Ytoknfhjclpdihaa.punyPlain
namespace Go.Proofs.Ytoknfhjclpdihaa
theorem punyPlain_holds : Rows.PunyPlainSaid := punyPlain.over
#print axioms punyPlain_holds
end Go.Proofs.Ytoknfhjclpdihaa
