/-
  For every uint8 room and every slice l of strings the law BufferParts returns true, and both read behind the call as they read before. No condition.
-/
import Derived.Test.YthdchapieninbabRows
import Derived.Test.YthdchapieninbabBuf7
import Derived.WalkKit
import Derived.ProofKit
import Derived.OpenShut
import Derived.ShutString
import Derived.ChangeOld
import Derived.Below
namespace Go.Proofs.Ythdchapieninbab.bufferParts
open Go.ChangeShapes Go.WideShapes Go.ChangeAt Go.RowKit
open Go.ChangeMaps (open_string shut_string)
set_option linter.unusedVariables false

theorem own : ownKnob Try.prog.godebug = none := by kernel_rfl
theorem laidOut : laidOutB Try.prog = true := by kernel_rfl

theorem mk_toList (s : ByteArray) : (⟨s.data.toList.toArray⟩ : ByteArray) = s := by simp
theorem bytes_wf {a : Int} (h : (Lit.int .u8 a).wf = true) : 0 ≤ a ∧ a ≤ 255 := by
  simp only [Lit.wf, Bool.and_eq_true, decide_eq_true_eq] at h; exact h
theorem app_list (a b : ByteArray) : (a ++ b).data.toList = a.data.toList ++ b.data.toList := by simp

set_option maxHeartbeats 2000000 in
set_option maxRecDepth 100000 in
theorem walk_go (room : Nat) (hr : room ≤ 255) (ao : Option Addr) (n cap : Nat) (w : World)
    (HC : Hid (∀ k, k < n → ∃ b off s, ao = some ⟨b, off, none⟩ ∧ b < w.heap.size ∧ w.cell? ⟨b, off + k, none⟩ = some (.string s) ∧ s.size ≤ maxLen)) :
    Calls Try.prog 4 #[.int .u8 room, .slice ao n cap] w fun e w' => e = .returned (.bool true) ∧ Below w.heap.size w w' := by
  have hok := Ok.start w
  have hr1 : (room : Int) ≤ 255 := by omega
  by_cases h50 : 50 < n
  · have h51 : (50 : Int) < (n : Int) := by omega
    go_enter Try.func4, Try.ntmps4
    go_wp2_with fail
    refine (new_yes room w (by omega)).mono ?_
    rintro e w1 ⟨rfl, hw⟩
    replace hok := hok.step (w' := w1) (by rw [hw]; exact (Below.refl _ _).alloc (Nat.le_refl _) _)
    clear hw
    go_wp2_with (first | (go_at_call 7; refine (awake_any _).mono ?_; rintro e w' ⟨rfl, hb'⟩; replace hok := hok.step hb'; clear hb'))
    go_ret
    exact ⟨rfl, hok.1⟩
  · have h51 : ¬ (50 : Int) < (n : Int) := by omega
    go_enter Try.func4, Try.ntmps4
    go_wp2_with fail
    refine (new_yes room w (by omega)).mono ?_
    rintro e w1 ⟨rfl, hw⟩
    have hB : Buf w.heap.size w.heap.size [] room false w1 := by rw [hw]; exact Buf.new room w (by omega)
    replace hok := hok.step (w' := w1) (by rw [hw]; exact (Below.refl _ _).alloc (Nat.le_refl _) _)
    clear hw
    go_wp2_with fail
    go_loopw [7, 8, 36] (fun al ov i wr => ∃ (k : Nat) (all : ByteArray) (over : Bool), k ≤ n ∧ i = .int .i64 k ∧ al = .string all ∧ ov = .bool over ∧ Ok w.heap.size w wr ∧ Buf w.heap.size w.heap.size all.data.toList room over wr) (fun _ _ i _ => n - (intOf i).toNat)
    case atStart => exact ⟨0, ⟨#[]⟩, false, Nat.zero_le _, rfl, rfl, rfl, hok, hB⟩
    case round =>
      clear hok hB
      obtain ⟨k, all, over, hk, rfl, rfl, rfl, hok, hB⟩ := hrel
      by_cases hlt : k < n
      · obtain ⟨b, off, s, rfl, hbl, hcell, hsm⟩ := HC.out k hlt
        have hc := (hok.1.cell (p := ⟨b, off + k, none⟩) hbl).trans hcell
        clear hcell
        have hfits := hB.fits
        rw [len_size] at hfits
        by_cases h300 : 300 < s.size
        · have h301 : (300 : Int) < (s.size : Int) := by omega
          clear HC
          go_wp2_with (first | (go_at_call 7; refine (awake_any _).mono ?_; rintro e w' ⟨rfl, hb'⟩; replace hok := hok.step hb'; clear hb'))
          go_ret
          exact ⟨rfl, hok.1⟩
        · have h301 : ¬ (300 : Int) < (s.size : Int) := by omega
          cases over
          · by_cases hfit : all.size + s.size ≤ room
            · have hd : ¬ ((room : Int) - (all.size : Int) < (s.size : Int)) := by omega
              have HP := hid (fun (W : World) (h : Buf w.heap.size w.heap.size all.data.toList room false W) => put_yes s h (by rw [len_size]; exact hfit))
              clear HC h300
              go_wp2_with (first | (go_at_call 11; refine (HP.out _ hB).mono ?_; rintro e w' ⟨rfl, hB2, hb2⟩))
              go_roundw
              case rel => exact ⟨k + 1, _, false, by omega, by go_num, rfl, rfl, ⟨hok.1.trans hb2.1, by have := hb2.1.size; have := hok.2; omega⟩, by rw [app_list]; exact hB2⟩
              case measure => simp [intOf]; omega
            · have hd : (room : Int) - (all.size : Int) < (s.size : Int) := by omega
              have HP := hid (fun (W : World) (h : Buf w.heap.size w.heap.size all.data.toList room false W) => put_no s h (.inr (by rw [len_size]; omega)))
              clear HC h300
              go_wp2_with (first | (go_at_call 11; refine (HP.out _ hB).mono ?_; rintro e w' ⟨rfl, hB2, hb2⟩))
              go_roundw
              case rel => exact ⟨k + 1, all, true, by omega, by go_num, rfl, rfl, ⟨hok.1.trans hb2.1, by have := hb2.1.size; have := hok.2; omega⟩, hB2⟩
              case measure => simp [intOf]; omega
          · have HP := hid (fun (W : World) (h : Buf w.heap.size w.heap.size all.data.toList room true W) => put_no s h (.inl rfl))
            clear HC h300
            go_wp2_with (first | (go_at_call 11; refine (HP.out _ hB).mono ?_; rintro e w' ⟨rfl, hB2, hb2⟩))
            go_roundw
            case rel => exact ⟨k + 1, all, true, by omega, by go_num, rfl, rfl, ⟨hok.1.trans hb2.1, by have := hb2.1.size; have := hok.2; omega⟩, hB2⟩
            case measure => simp [intOf]; omega
      · have HT := hid (fun (W : World) (h : Buf w.heap.size w.heap.size all.data.toList room over W) => text_any h)
        rw [mk_toList] at HT
        clear HC
        go_wp2_with (first | (go_at_call 12; refine (HT.out _ hB).mono ?_; rintro e w' ⟨rfl, rfl⟩) | (go_at_call 13; refine (full_any hB).mono ?_; rintro e w' ⟨rfl, rfl⟩) | (go_at_call 7; refine (awake_any _).mono ?_; rintro e w' ⟨rfl, hb'⟩; replace hok := hok.step hb'; clear hb'))
        go_ret
        exact ⟨rfl, hok.1⟩
theorem walk (a0 : Int) (v1 : Value) (x1 : List ByteArray) (w : World) (w0 : (Lit.int .u8 a0).wf = true) (w1 : StrSl w v1 x1) :
    Calls Try.prog 4 #[.int .u8 a0, v1] w fun e w' => e = .returned (.bool true) ∧ Below w.heap.size w w' := by
  obtain ⟨r0, r1⟩ := bytes_wf w0
  obtain ⟨room, rfl⟩ := Int.eq_ofNat_of_zero_le r0
  rcases w1 with ⟨rfl, a, cap, rfl⟩ | ⟨b, off, cap, rfl, hlt, hc⟩
  · exact walk_go room (by omega) a 0 cap w (fun k hk => by simp at hk)
  · exact walk_go room (by omega) _ _ cap w (fun k hk => ⟨b, off, x1[k], rfl, hlt, hc k hk⟩)

set_option maxRecDepth 100000 in
theorem lifted (os : Os) (started : os.Started) (H : Type) (enc : TypeId × Value → H) :
    ReturnsInHanded {} Try.checked os 4 .any (Rows.bufferPartsSpec.pre6 enc Try.prog Try.f4 Rows.bufferPartsRow.domain false) (Rows.bufferPartsSpec.post enc Try.prog Try.f4 false true false false) := by
  refine returnsInHanded_of_change (C := Try.checked) own started (by kernel_rfl) Try.func4
    (ChangeSpec.witness6 (enc := enc) (C := Try.checked) false ⟨#[], #[.int .u8 0, .slice none 0 0], []⟩ 8 (by kernel_rfl) (by kernel_rfl) (by kernel_rfl) (by kernel_rfl)) ?_
  intro W base args ds gs before hval0 hW hcnd _
  have hval : ∀ (j : Nat) t v, Try.f4.params[j]? = some t → args[j]? = some v → Value.okWide Try.prog W .any base t v := hval0
  have hW' := hW
  obtain ⟨p, q, hA0, hV, rfl, hfz, hnd⟩ := hW
  have hA : DataW.TrodAll enc Try.prog W 0 (fun _ => true) true Try.f4.params.toList args.toList ds p := hA0
  rw [Try.params4] at hA hval
  obtain ⟨v0, vs0, d0, ds0, p0, q0, hargs, rfl, rfl, h0, r0⟩ := trodAll_cons hA
  obtain ⟨v1, vs1, d1, ds1, p1, q1, rfl, rfl, rfl, h1, r1⟩ := trodAll_cons r0
  obtain ⟨rfl, rfl, rfl⟩ := trodAll_nil r1
  obtain rfl : args = #[v0, v1] := by cases args; simp_all
  obtain ⟨rfl, rfl⟩ := trodVars_none hV
  obtain ⟨a0, rfl, rfl, rfl, w0⟩ := open_int Try.underlying5 (hval 0 5 v0 rfl rfl) h0
  obtain ⟨a1, len1, cap1, rfl⟩ := okWide_slice Try.underlying37 (hval 1 37 v1 rfl rfl)
  have k1 := h1
  have lt1 : ∀ x ∈ p1, x.block < W.heap.size := by obtain ⟨m, hm⟩ := k1; exact DataW.trod_lt m _ _ _ hm
  obtain ⟨x1, w1⟩ := open_strsl Try.underlying37 Try.underlying9 (by kernel_rfl) (v := .slice a1 len1 cap1) rfl h1
  clear hA0 hval0
  refine (walk a0 _ x1 W w0 w1).mono fun e W' ⟨he, bel⟩ => ?_
  subst he
  exact ⟨_, rfl, _, _, _, [], _, [], hW', trodAll_mk1 (shut_bool Try.underlying4 _), (trodAll_cons_mk (shut_int Try.underlying5 w0) (trodAll_cons_mk (Below.trod laidOut (by kernel_rfl) (of_decide_eq_true (by kernel_rfl)) k1 bel lt1) trodAll_mk0)), rfl, bel.frame _, fun h => by cases h⟩

theorem over : Rows.bufferPartsRow.holds Try.pinned (OpenSpec.ofChange Rows.bufferPartsSpec) :=
  OpenClaim.holds_of_wide 4 Try.f4 rfl rfl rfl rfl rfl rfl rfl ⟨rfl, rfl, rfl, rfl, rfl⟩ rfl rfl rfl rfl rfl (by kernel_rfl) Try.func4 (by kernel_rfl)
    (of_decide_eq_true (by kernel_rfl)) (by unfold Func.isWrapper; first | (rw [if_pos (by decide +kernel)]; kernel_rfl) | (rw [if_neg (by decide +kernel)]; exact ⟨rfl, rfl⟩))
    (fun os started H enc _ => lifted os started H enc)

end Go.Proofs.Ythdchapieninbab.bufferParts
namespace Go.Proofs.Ythdchapieninbab
theorem bufferParts_holds : Rows.BufferPartsSaid := bufferParts.over
#print axioms bufferParts_holds
end Go.Proofs.Ythdchapieninbab
