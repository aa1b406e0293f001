/-
  For every string s and every slice l of runes the law UtfTexts returns true, and both read behind the call as they read before. No condition.
-/
import Derived.Test.YtamohliclidpgabRows
import Derived.Test.YtamohliclidpgabUtf14
import Derived.WalkKit
import Derived.ProofKit
import Derived.OpenShut
import Derived.ShutString
import Derived.ChangeOld
import Derived.Below
namespace Go.Proofs.Ytamohliclidpgab.utfTexts
open Go.ChangeShapes Go.WideShapes Go.ChangeAt Go.RowKit
open Go.ChangeMaps (open_string shut_string)
set_option linter.unusedVariables false

theorem own : ownKnob Try.prog.godebug = none := by kernel_rfl
theorem laidOut : laidOutB Try.prog = true := by kernel_rfl

/-- WHAT THE WALK IS TOLD OF A SLICE OF INTEGERS THAT CAME IN: it is nil; or it leads to a row of 'cap' cells, the numbers 'zs' (the first 'len' are its elements, the rest its spare room), each fitting its kind. -/
def IsRow (k : IntKind) (w : World) (a : Option Addr) (len cap : Nat) (zs : List Int) : Prop :=
  (a = none ∧ len = 0 ∧ cap = 0 ∧ zs = []) ∨
  ∃ x, a = some x ∧ len ≤ cap ∧ cap ≤ maxLen ∧ zs.length = cap ∧ (∀ i, i < zs.length → w.cell? (x.add i) = some (.int k (zs.getD i 0))) ∧ ∀ n ∈ zs, (Lit.int k n).wf = true

theorem sl_of_row {w : World} {a : Option Addr} {len cap : Nat} {zs : List Int} (h : IsRow .i32 w a len cap zs) :
    ∃ ys : List Int, ys.length = len ∧ (∀ y ∈ ys, -2147483648 ≤ y ∧ y ≤ 2147483647) ∧ Sl .i32 w (.slice a len cap) ys := by
  rcases h with ⟨rfl, rfl, rfl, rfl⟩ | ⟨x, rfl, hl, hm, hz, hcell, hwz⟩
  · exact ⟨[], rfl, by simp, .inl ⟨rfl, _, _, rfl⟩⟩
  · have hlen : (zs.take len).length = len := by rw [List.length_take]; omega
    refine ⟨zs.take len, hlen, fun y hy => bounds_i32 (hwz y (List.mem_of_mem_take hy)), ?_⟩
    by_cases h0 : len = 0
    · subst h0; exact .inl ⟨by simp, _, _, rfl⟩
    · obtain ⟨b, off, spot⟩ := x
      have hspot : spot = none := by simpa [Addr.add] using World.cell?_spot (hcell 0 (by omega))
      subst hspot
      refine .inr ⟨b, off, cap, by rw [hlen], World.block_lt_of_cell? w _ (hcell 0 (by omega)), fun j hj => ?_⟩
      rw [hlen] at hj
      have hc := hcell j (by omega)
      have hadd : (⟨b, off, none⟩ : Addr).add j = ⟨b, off + j, none⟩ := by unfold Addr.add; split <;> simp_all
      rw [hadd] at hc
      rw [hc, List.getElem_take]
      simp [List.getD_eq_getElem?_getD, List.getElem?_eq_getElem (show j < zs.length by omega)]

theorem sl_cell {w : World} {a : Option Addr} {len cap : Nat} {zs : List Int} (h : Sl .i32 w (.slice a len cap) zs) (k : Nat) (hk : k < zs.length) : ∃ b off, a = some ⟨b, off, none⟩ ∧ w.cell? ⟨b, off + k, none⟩ = some (.int .i32 zs[k]) := by
  rcases h with ⟨rfl, _⟩ | ⟨b, off, cap', e, _, hc⟩
  · simp at hk
  · simp at e; exact ⟨b, off, e.1, hc k hk⟩

set_option maxRecDepth 100000 in
set_option maxHeartbeats 8000000 in
theorem walk_cons (a0 : ByteArray) (b off len1 cap1 : Nat) (w : World) (w0 : a0.size ≤ maxLen) (zs : List Int) (HZR : Hid (∀ z ∈ zs, -2147483648 ≤ z ∧ z ≤ 2147483647)) (HZL : Hid (zs.length = len1)) (SL : Sl .i32 w (.slice (some ⟨b, off, none⟩) len1 cap1) zs) (HCELL : Hid (∀ W, Sl .i32 W (.slice (some ⟨b, off, none⟩) len1 cap1) zs → ∀ k (hk : k < zs.length), W.cell? ⟨b, off + k, none⟩ = some (.int .i32 zs[k]))) :
    Calls Try.prog 5 #[.string a0, .slice (some ⟨b, off, none⟩) len1 cap1] w fun e w' => e = .returned (.bool true) ∧ Below w.heap.size w w' := by
  have hok := Ok.start w
  by_cases h : 300 < a0.size
  · go_enter Try.func5, Try.ntmps5
    go_wp2_with (first | (go_at_call 8; refine (uawake_any _).mono ?_; rintro e w' ⟨rfl, hb'⟩; replace hok := hok.step hb'; clear hb'))
    go_ret
    exact ⟨rfl, hok.1⟩
  by_cases h' : 100 < len1
  · go_enter Try.func5, Try.ntmps5
    go_wp2_with (first | (go_at_call 8; refine (uawake_any _).mono ?_; rintro e w' ⟨rfl, hb'⟩; replace hok := hok.step hb'; clear hb'))
    go_ret
    exact ⟨rfl, hok.1⟩
  have m0 : Hid (a0.size ≤ 1000000) := by show _ ≤ _; omega
  have m1 : Hid (a0.size ≤ maxLen) := w0
  have m2 : Hid (zs.length ≤ 1000000) := by show _ ≤ _; rw [HZL.out]; omega
  go_enter Try.func5, Try.ntmps5
  go_wp2_with fail
  refine (runes_any a0 _ m0.out).mono ?_
  rintro e w2 ⟨h1, hb1⟩
  replace hok := hok.step hb1
  replace SL := SL.step hb1
  clear hb1
  rcases h1 with ⟨hf, rfl⟩ | ⟨hf, v, rfl, hsl⟩
  · go_wp2_with fail
    refine (rflt_any _ _ m1.out).mono ?_
    rintro e w3 ⟨rfl, hb3⟩
    replace hok := hok.step hb3
    replace SL := SL.step hb3
    clear hb3
    go_wp2_with fail
    by_cases hall : zs.all scB = true
    · obtain ⟨t1, t2⟩ := text_back zs hall
      have t3 := textL_len zs
      have hTV : textV zs = .string ⟨(textL zs).toArray⟩ := by unfold textV; rw [hall]; rfl
      have HT8 : Hid (∀ W, Sl .i32 W (.slice (some ⟨b, off, none⟩) len1 cap1) zs → Calls Try.prog 19 #[.slice (some ⟨b, off, none⟩) len1 cap1] W fun e w' => e = .returned (.tuple #[.string ⟨(textL zs).toArray⟩, .bool true]) ∧ Below W.heap.size W w') := fun W h => by
        have := text_any _ zs W h m2.out
        rw [hTV, hall] at this; exact this
      have HR9 : Hid (∀ W, Calls Try.prog 18 #[.string ⟨(textL zs).toArray⟩] W fun e w' => ∃ v, e = .returned (.tuple #[v, .bool true]) ∧ Sl .i32 w' v zs ∧ Below W.heap.size W w') := fun W => by
        refine (runes_any ⟨(textL zs).toArray⟩ W (by show (textL zs).toArray.size ≤ _; have := m2.out; rw [HZL.out] at *; simp; omega)).mono ?_
        rintro e w' ⟨h1, h2⟩
        have e1 : (ByteArray.mk (textL zs).toArray).data.toList = textL zs := by simp
        rw [e1] at h1
        rcases h1 with ⟨h1, _⟩ | ⟨_, v, h3, h4⟩
        · omega
        · rw [t1] at h4; exact ⟨v, h3, h4, h2⟩
      have HALL : Hid (zs.all scB = true) := hall
      clear t1 t2 t3 hTV hall
      refine (HT8.out _ SL).mono ?_
      rintro e w8 ⟨rfl, hb8⟩
      replace hok := hok.step hb8
      replace SL := SL.step hb8
      clear hb8
      go_wp2_with fail
      go_loop [69] (fun i => ∃ k : Nat, k ≤ len1 ∧ i = .int .i64 k) (fun i => len1 - (intOf i).toNat)
      case atStart => exact ⟨0, by omega, rfl⟩
      case round =>
        obtain ⟨k, hk, rfl⟩ := hrel
        by_cases hlt : k < len1
        · have hlz : k < zs.length := by rw [HZL.out]; exact hlt
          have hcell := HCELL.out _ SL k hlz
          have hsck : scB zs[k] = true := List.all_eq_true.1 HALL.out _ (List.getElem_mem hlz)
          obtain ⟨zb1, zb2⟩ := HZR.out zs[k] (List.getElem_mem hlz)
          generalize zs[k] = z at *
          go_wp2_with (first | (go_at_call 16; refine (rsc_any _ _).mono ?_; rintro e w' ⟨rfl, hw'⟩))
          go_round
          case rel => exact ⟨k + 1, by omega, by go_num⟩
          case measure => simp [intOf]; omega
        · go_wp2_with fail
          refine (HR9.out _).mono ?_
          rintro e w9 ⟨v9, rfl, hsl9, hb9⟩
          replace hok := hok.step hb9
          replace SL := SL.step hb9
          clear hb9
          go_wp2_with fail
          refine (ints_any _ zs _ SL m2.out HZR.out).mono ?_
          rintro e w10 ⟨v10, rfl, hsl10, hb10⟩
          replace hok := hok.step hb10
          replace SL := SL.step hb10
          replace hsl9 := hsl9.step hb10
          clear hb10
          go_wp2_with fail
          refine (rtext_any _ zs _ hsl10 m2.out).mono ?_
          rintro e w11 ⟨rfl, hb11⟩
          replace hok := hok.step hb11
          replace SL := SL.step hb11
          replace hsl9 := hsl9.step hb11
          clear hb11 hsl10
          go_wp2_with fail
          refine (ints_any _ zs _ hsl9 m2.out HZR.out).mono ?_
          rintro e w12 ⟨v12, rfl, hsl12, hb12⟩
          replace hok := hok.step hb12
          replace SL := SL.step hb12
          clear hb12 hsl9
          go_wp2_with fail
          refine (ints_any _ zs _ SL m2.out HZR.out).mono ?_
          rintro e w13 ⟨v13, rfl, hsl13, hb13⟩
          replace hok := hok.step hb13
          replace hsl12 := hsl12.step hb13
          clear hb13 SL
          go_wp2_with fail
          refine (rsame_any _ _ zs _ hsl12 hsl13 m2.out).mono ?_
          rintro e w14 ⟨rfl, hb14⟩
          replace hok := hok.step hb14
          clear hb14 hsl12 hsl13
          go_wp2_with fail
          refine (uawake_any _).mono ?_
          rintro e w15 ⟨rfl, hb15⟩
          replace hok := hok.step hb15
          clear hb15
          go_wp2_with fail
          go_ret
          exact ⟨rfl, hok.1⟩
    · have hall' : zs.all scB = false := by simpa using hall
      have hTV : textV zs = .string ⟨#[]⟩ := by unfold textV; rw [hall']; rfl
      have HT8 : Hid (∀ W, Sl .i32 W (.slice (some ⟨b, off, none⟩) len1 cap1) zs → Calls Try.prog 19 #[.slice (some ⟨b, off, none⟩) len1 cap1] W fun e w' => e = .returned (.tuple #[.string ⟨#[]⟩, .bool false]) ∧ Below W.heap.size W w') := fun W h => by
        have := text_any _ zs W h m2.out
        rw [hTV, hall'] at this; exact this
      have HALL : Hid (zs.all scB = false) := hall'
      clear hTV hall hall'
      refine (HT8.out _ SL).mono ?_
      rintro e w8 ⟨rfl, hb8⟩
      replace hok := hok.step hb8
      replace SL := SL.step hb8
      clear hb8
      go_wp2_with fail
      go_loop [69] (fun i => ∃ k : Nat, k ≤ len1 ∧ i = .int .i64 k ∧ Hid (∀ j (h : j < zs.length), j < k → scB zs[j] = true)) (fun i => len1 - (intOf i).toNat)
      case atStart => exact ⟨0, by omega, rfl, fun j _ h => by omega⟩
      case round =>
        obtain ⟨k, hk, rfl, hA⟩ := hrel
        by_cases hlt : k < len1
        · have hlz : k < zs.length := by rw [HZL.out]; exact hlt
          have hcell := HCELL.out _ SL k hlz
          obtain ⟨zb1, zb2⟩ := HZR.out zs[k] (List.getElem_mem hlz)
          by_cases hsck : scB zs[k] = true
          · have HA : Hid (∀ j (h : j < zs.length), j < k + 1 → scB zs[j] = true) := fun j h hj => by
              by_cases e : j = k
              · subst e; exact hsck
              · exact hA.out j h (by omega)
            clear hA
            generalize zs[k] = z at *
            go_wp2_with (first | (go_at_call 16; refine (rsc_any _ _).mono ?_; rintro e w' ⟨rfl, hw'⟩))
            go_round
            case rel => exact ⟨k + 1, by omega, by go_num, HA⟩
            case measure => simp [intOf]; omega
          · have hsck' : scB zs[k] = false := by simpa using hsck
            clear hA hsck
            generalize zs[k] = z at *
            go_wp2_with (first | (go_at_call 16; refine (rsc_any _ _).mono ?_; rintro e w' ⟨rfl, rfl⟩) | (go_at_call 8; refine (uawake_any _).mono ?_; rintro e w' ⟨rfl, hb'⟩; replace hok := hok.step hb'; clear hb'))
            go_ret
            exact ⟨rfl, hok.1⟩
        · exfalso
          have : zs.all scB = true := List.all_eq_true.2 fun z hz => by
            obtain ⟨j, hj, rfl⟩ := List.getElem_of_mem hz
            exact hA.out j hj (by rw [HZL.out] at hj; omega)
          rw [HALL.out] at this; cases this
  · obtain ⟨r1, r2, r3⟩ := runesL_back a0.data.toList hf
    rw [len_size] at r3
    go_wp2_with fail
    refine (rflt_any _ _ m1.out).mono ?_
    rintro e w3 ⟨rfl, hb3⟩
    replace hok := hok.step hb3
    replace SL := SL.step hb3
    replace hsl := hsl.step hb3
    clear hb3
    have hTV : textV (runesL a0.data.toList) = .string a0 := by unfold textV; rw [r2, r1]; rfl
    have HT : Hid (∀ w, Sl .i32 w v (runesL a0.data.toList) → Calls Try.prog 19 #[v] w fun e w' => e = .returned (.tuple #[.string a0, .bool true]) ∧ Below w.heap.size w w') := fun w h => by
      have := text_any v _ w h (by omega)
      rw [hTV, r2] at this; exact this
    have HIN : Hid (∀ w, Sl .i32 w v (runesL a0.data.toList) → Calls Try.prog 21 #[v] w fun e w' => ∃ v', e = .returned v' ∧ Sl .i64 w' v' (runesL a0.data.toList) ∧ Below w.heap.size w w') := fun w h => ints_any v _ w h (by omega) (sc_range _ r2)
    have HRL : Hid ((runesL a0.data.toList).length ≤ 1000000) := by show _ ≤ _; omega
    clear r1 r2 r3 hTV
    go_wp2_with fail
    refine (HT.out _ hsl).mono ?_
    rintro e w4 ⟨rfl, hb4⟩
    replace hok := hok.step hb4
    replace SL := SL.step hb4
    replace hsl := hsl.step hb4
    clear hb4
    go_wp2_with fail
    refine (HIN.out _ hsl).mono ?_
    rintro e w5 ⟨v5, rfl, hsl5, hb5⟩
    replace hok := hok.step hb5
    replace SL := SL.step hb5
    clear hb5 hsl
    go_wp2_with fail
    refine (rrunes_any _ _ m0.out hf).mono ?_
    rintro e w6 ⟨v6, rfl, hsl6, hb6⟩
    replace hok := hok.step hb6
    replace SL := SL.step hb6
    replace hsl5 := hsl5.step hb6
    clear hb6
    go_wp2_with fail
    refine (rsame_any v5 v6 _ _ hsl5 hsl6 HRL.out).mono ?_
    rintro e w7 ⟨rfl, hb7⟩
    replace hok := hok.step hb7
    replace SL := SL.step hb7
    clear hb7 hsl5 hsl6
    go_wp2_with fail
    by_cases hall : zs.all scB = true
    · obtain ⟨t1, t2⟩ := text_back zs hall
      have t3 := textL_len zs
      have hTV : textV zs = .string ⟨(textL zs).toArray⟩ := by unfold textV; rw [hall]; rfl
      have HT8 : Hid (∀ W, Sl .i32 W (.slice (some ⟨b, off, none⟩) len1 cap1) zs → Calls Try.prog 19 #[.slice (some ⟨b, off, none⟩) len1 cap1] W fun e w' => e = .returned (.tuple #[.string ⟨(textL zs).toArray⟩, .bool true]) ∧ Below W.heap.size W w') := fun W h => by
        have := text_any _ zs W h m2.out
        rw [hTV, hall] at this; exact this
      have HR9 : Hid (∀ W, Calls Try.prog 18 #[.string ⟨(textL zs).toArray⟩] W fun e w' => ∃ v, e = .returned (.tuple #[v, .bool true]) ∧ Sl .i32 w' v zs ∧ Below W.heap.size W w') := fun W => by
        refine (runes_any ⟨(textL zs).toArray⟩ W (by show (textL zs).toArray.size ≤ _; have := m2.out; rw [HZL.out] at *; simp; omega)).mono ?_
        rintro e w' ⟨h1, h2⟩
        have e1 : (ByteArray.mk (textL zs).toArray).data.toList = textL zs := by simp
        rw [e1] at h1
        rcases h1 with ⟨h1, _⟩ | ⟨_, v, h3, h4⟩
        · omega
        · rw [t1] at h4; exact ⟨v, h3, h4, h2⟩
      have HALL : Hid (zs.all scB = true) := hall
      clear t1 t2 t3 hTV hall
      refine (HT8.out _ SL).mono ?_
      rintro e w8 ⟨rfl, hb8⟩
      replace hok := hok.step hb8
      replace SL := SL.step hb8
      clear hb8
      go_wp2_with fail
      go_loop [69] (fun i => ∃ k : Nat, k ≤ len1 ∧ i = .int .i64 k) (fun i => len1 - (intOf i).toNat)
      case atStart => exact ⟨0, by omega, rfl⟩
      case round =>
        obtain ⟨k, hk, rfl⟩ := hrel
        by_cases hlt : k < len1
        · have hlz : k < zs.length := by rw [HZL.out]; exact hlt
          have hcell := HCELL.out _ SL k hlz
          have hsck : scB zs[k] = true := List.all_eq_true.1 HALL.out _ (List.getElem_mem hlz)
          obtain ⟨zb1, zb2⟩ := HZR.out zs[k] (List.getElem_mem hlz)
          generalize zs[k] = z at *
          go_wp2_with (first | (go_at_call 16; refine (rsc_any _ _).mono ?_; rintro e w' ⟨rfl, hw'⟩))
          go_round
          case rel => exact ⟨k + 1, by omega, by go_num⟩
          case measure => simp [intOf]; omega
        · go_wp2_with fail
          refine (HR9.out _).mono ?_
          rintro e w9 ⟨v9, rfl, hsl9, hb9⟩
          replace hok := hok.step hb9
          replace SL := SL.step hb9
          clear hb9
          go_wp2_with fail
          refine (ints_any _ zs _ SL m2.out HZR.out).mono ?_
          rintro e w10 ⟨v10, rfl, hsl10, hb10⟩
          replace hok := hok.step hb10
          replace SL := SL.step hb10
          replace hsl9 := hsl9.step hb10
          clear hb10
          go_wp2_with fail
          refine (rtext_any _ zs _ hsl10 m2.out).mono ?_
          rintro e w11 ⟨rfl, hb11⟩
          replace hok := hok.step hb11
          replace SL := SL.step hb11
          replace hsl9 := hsl9.step hb11
          clear hb11 hsl10
          go_wp2_with fail
          refine (ints_any _ zs _ hsl9 m2.out HZR.out).mono ?_
          rintro e w12 ⟨v12, rfl, hsl12, hb12⟩
          replace hok := hok.step hb12
          replace SL := SL.step hb12
          clear hb12 hsl9
          go_wp2_with fail
          refine (ints_any _ zs _ SL m2.out HZR.out).mono ?_
          rintro e w13 ⟨v13, rfl, hsl13, hb13⟩
          replace hok := hok.step hb13
          replace hsl12 := hsl12.step hb13
          clear hb13 SL
          go_wp2_with fail
          refine (rsame_any _ _ zs _ hsl12 hsl13 m2.out).mono ?_
          rintro e w14 ⟨rfl, hb14⟩
          replace hok := hok.step hb14
          clear hb14 hsl12 hsl13
          go_wp2_with fail
          refine (uawake_any _).mono ?_
          rintro e w15 ⟨rfl, hb15⟩
          replace hok := hok.step hb15
          clear hb15
          go_wp2_with fail
          go_ret
          exact ⟨rfl, hok.1⟩
    · have hall' : zs.all scB = false := by simpa using hall
      have hTV : textV zs = .string ⟨#[]⟩ := by unfold textV; rw [hall']; rfl
      have HT8 : Hid (∀ W, Sl .i32 W (.slice (some ⟨b, off, none⟩) len1 cap1) zs → Calls Try.prog 19 #[.slice (some ⟨b, off, none⟩) len1 cap1] W fun e w' => e = .returned (.tuple #[.string ⟨#[]⟩, .bool false]) ∧ Below W.heap.size W w') := fun W h => by
        have := text_any _ zs W h m2.out
        rw [hTV, hall'] at this; exact this
      have HALL : Hid (zs.all scB = false) := hall'
      clear hTV hall hall'
      refine (HT8.out _ SL).mono ?_
      rintro e w8 ⟨rfl, hb8⟩
      replace hok := hok.step hb8
      replace SL := SL.step hb8
      clear hb8
      go_wp2_with fail
      go_loop [69] (fun i => ∃ k : Nat, k ≤ len1 ∧ i = .int .i64 k ∧ Hid (∀ j (h : j < zs.length), j < k → scB zs[j] = true)) (fun i => len1 - (intOf i).toNat)
      case atStart => exact ⟨0, by omega, rfl, fun j _ h => by omega⟩
      case round =>
        obtain ⟨k, hk, rfl, hA⟩ := hrel
        by_cases hlt : k < len1
        · have hlz : k < zs.length := by rw [HZL.out]; exact hlt
          have hcell := HCELL.out _ SL k hlz
          obtain ⟨zb1, zb2⟩ := HZR.out zs[k] (List.getElem_mem hlz)
          by_cases hsck : scB zs[k] = true
          · have HA : Hid (∀ j (h : j < zs.length), j < k + 1 → scB zs[j] = true) := fun j h hj => by
              by_cases e : j = k
              · subst e; exact hsck
              · exact hA.out j h (by omega)
            clear hA
            generalize zs[k] = z at *
            go_wp2_with (first | (go_at_call 16; refine (rsc_any _ _).mono ?_; rintro e w' ⟨rfl, hw'⟩))
            go_round
            case rel => exact ⟨k + 1, by omega, by go_num, HA⟩
            case measure => simp [intOf]; omega
          · have hsck' : scB zs[k] = false := by simpa using hsck
            clear hA hsck
            generalize zs[k] = z at *
            go_wp2_with (first | (go_at_call 16; refine (rsc_any _ _).mono ?_; rintro e w' ⟨rfl, rfl⟩) | (go_at_call 8; refine (uawake_any _).mono ?_; rintro e w' ⟨rfl, hb'⟩; replace hok := hok.step hb'; clear hb'))
            go_ret
            exact ⟨rfl, hok.1⟩
        · exfalso
          have : zs.all scB = true := List.all_eq_true.2 fun z hz => by
            obtain ⟨j, hj, rfl⟩ := List.getElem_of_mem hz
            exact hA.out j hj (by rw [HZL.out] at hj; omega)
          rw [HALL.out] at this; cases this

set_option maxRecDepth 100000 in
set_option maxHeartbeats 8000000 in
theorem walk_nil (a0 : ByteArray) (a1 : Option Addr) (cap1 : Nat) (w : World) (w0 : a0.size ≤ maxLen) (zs : List Int) (HZR : Hid (∀ z ∈ zs, -2147483648 ≤ z ∧ z ≤ 2147483647)) (HZL : Hid (zs.length = 0)) (SL : Sl .i32 w (.slice a1 0 cap1) zs) :
    Calls Try.prog 5 #[.string a0, .slice a1 0 cap1] w fun e w' => e = .returned (.bool true) ∧ Below w.heap.size w w' := by
  have hok := Ok.start w
  by_cases h : 300 < a0.size
  · go_enter Try.func5, Try.ntmps5
    go_wp2_with (first | (go_at_call 8; refine (uawake_any _).mono ?_; rintro e w' ⟨rfl, hb'⟩; replace hok := hok.step hb'; clear hb'))
    go_ret
    exact ⟨rfl, hok.1⟩
  have m0 : Hid (a0.size ≤ 1000000) := by show _ ≤ _; omega
  have m1 : Hid (a0.size ≤ maxLen) := w0
  have m2 : Hid (zs.length ≤ 1000000) := by show _ ≤ _; rw [HZL.out]; omega
  go_enter Try.func5, Try.ntmps5
  go_wp2_with fail
  refine (runes_any a0 _ m0.out).mono ?_
  rintro e w2 ⟨h1, hb1⟩
  replace hok := hok.step hb1
  replace SL := SL.step hb1
  clear hb1
  rcases h1 with ⟨hf, rfl⟩ | ⟨hf, v, rfl, hsl⟩
  · go_wp2_with fail
    refine (rflt_any _ _ m1.out).mono ?_
    rintro e w3 ⟨rfl, hb3⟩
    replace hok := hok.step hb3
    replace SL := SL.step hb3
    clear hb3
    go_wp2_with fail
    have hall : zs.all scB = true := by rw [List.eq_nil_of_length_eq_zero HZL.out]; rfl
    · obtain ⟨t1, t2⟩ := text_back zs hall
      have t3 := textL_len zs
      have hTV : textV zs = .string ⟨(textL zs).toArray⟩ := by unfold textV; rw [hall]; rfl
      have HT8 : Hid (∀ W, Sl .i32 W (.slice a1 0 cap1) zs → Calls Try.prog 19 #[.slice a1 0 cap1] W fun e w' => e = .returned (.tuple #[.string ⟨(textL zs).toArray⟩, .bool true]) ∧ Below W.heap.size W w') := fun W h => by
        have := text_any _ zs W h m2.out
        rw [hTV, hall] at this; exact this
      have HR9 : Hid (∀ W, Calls Try.prog 18 #[.string ⟨(textL zs).toArray⟩] W fun e w' => ∃ v, e = .returned (.tuple #[v, .bool true]) ∧ Sl .i32 w' v zs ∧ Below W.heap.size W w') := fun W => by
        refine (runes_any ⟨(textL zs).toArray⟩ W (by show (textL zs).toArray.size ≤ _; have := m2.out; rw [HZL.out] at *; simp; omega)).mono ?_
        rintro e w' ⟨h1, h2⟩
        have e1 : (ByteArray.mk (textL zs).toArray).data.toList = textL zs := by simp
        rw [e1] at h1
        rcases h1 with ⟨h1, _⟩ | ⟨_, v, h3, h4⟩
        · omega
        · rw [t1] at h4; exact ⟨v, h3, h4, h2⟩
      have HALL : Hid (zs.all scB = true) := hall
      clear t1 t2 t3 hTV hall
      refine (HT8.out _ SL).mono ?_
      rintro e w8 ⟨rfl, hb8⟩
      replace hok := hok.step hb8
      replace SL := SL.step hb8
      clear hb8
      go_wp2_with fail
      go_loop [69] (fun i => ∃ k : Nat, k ≤ 0 ∧ i = .int .i64 k) (fun i => 0 - (intOf i).toNat)
      case atStart => exact ⟨0, by omega, rfl⟩
      case round =>
        obtain ⟨k, hk, rfl⟩ := hrel
        · go_wp2_with fail
          refine (HR9.out _).mono ?_
          rintro e w9 ⟨v9, rfl, hsl9, hb9⟩
          replace hok := hok.step hb9
          replace SL := SL.step hb9
          clear hb9
          go_wp2_with fail
          refine (ints_any _ zs _ SL m2.out HZR.out).mono ?_
          rintro e w10 ⟨v10, rfl, hsl10, hb10⟩
          replace hok := hok.step hb10
          replace SL := SL.step hb10
          replace hsl9 := hsl9.step hb10
          clear hb10
          go_wp2_with fail
          refine (rtext_any _ zs _ hsl10 m2.out).mono ?_
          rintro e w11 ⟨rfl, hb11⟩
          replace hok := hok.step hb11
          replace SL := SL.step hb11
          replace hsl9 := hsl9.step hb11
          clear hb11 hsl10
          go_wp2_with fail
          refine (ints_any _ zs _ hsl9 m2.out HZR.out).mono ?_
          rintro e w12 ⟨v12, rfl, hsl12, hb12⟩
          replace hok := hok.step hb12
          replace SL := SL.step hb12
          clear hb12 hsl9
          go_wp2_with fail
          refine (ints_any _ zs _ SL m2.out HZR.out).mono ?_
          rintro e w13 ⟨v13, rfl, hsl13, hb13⟩
          replace hok := hok.step hb13
          replace hsl12 := hsl12.step hb13
          clear hb13 SL
          go_wp2_with fail
          refine (rsame_any _ _ zs _ hsl12 hsl13 m2.out).mono ?_
          rintro e w14 ⟨rfl, hb14⟩
          replace hok := hok.step hb14
          clear hb14 hsl12 hsl13
          go_wp2_with fail
          refine (uawake_any _).mono ?_
          rintro e w15 ⟨rfl, hb15⟩
          replace hok := hok.step hb15
          clear hb15
          go_wp2_with fail
          go_ret
          exact ⟨rfl, hok.1⟩
  · obtain ⟨r1, r2, r3⟩ := runesL_back a0.data.toList hf
    rw [len_size] at r3
    go_wp2_with fail
    refine (rflt_any _ _ m1.out).mono ?_
    rintro e w3 ⟨rfl, hb3⟩
    replace hok := hok.step hb3
    replace SL := SL.step hb3
    replace hsl := hsl.step hb3
    clear hb3
    have hTV : textV (runesL a0.data.toList) = .string a0 := by unfold textV; rw [r2, r1]; rfl
    have HT : Hid (∀ w, Sl .i32 w v (runesL a0.data.toList) → Calls Try.prog 19 #[v] w fun e w' => e = .returned (.tuple #[.string a0, .bool true]) ∧ Below w.heap.size w w') := fun w h => by
      have := text_any v _ w h (by omega)
      rw [hTV, r2] at this; exact this
    have HIN : Hid (∀ w, Sl .i32 w v (runesL a0.data.toList) → Calls Try.prog 21 #[v] w fun e w' => ∃ v', e = .returned v' ∧ Sl .i64 w' v' (runesL a0.data.toList) ∧ Below w.heap.size w w') := fun w h => ints_any v _ w h (by omega) (sc_range _ r2)
    have HRL : Hid ((runesL a0.data.toList).length ≤ 1000000) := by show _ ≤ _; omega
    clear r1 r2 r3 hTV
    go_wp2_with fail
    refine (HT.out _ hsl).mono ?_
    rintro e w4 ⟨rfl, hb4⟩
    replace hok := hok.step hb4
    replace SL := SL.step hb4
    replace hsl := hsl.step hb4
    clear hb4
    go_wp2_with fail
    refine (HIN.out _ hsl).mono ?_
    rintro e w5 ⟨v5, rfl, hsl5, hb5⟩
    replace hok := hok.step hb5
    replace SL := SL.step hb5
    clear hb5 hsl
    go_wp2_with fail
    refine (rrunes_any _ _ m0.out hf).mono ?_
    rintro e w6 ⟨v6, rfl, hsl6, hb6⟩
    replace hok := hok.step hb6
    replace SL := SL.step hb6
    replace hsl5 := hsl5.step hb6
    clear hb6
    go_wp2_with fail
    refine (rsame_any v5 v6 _ _ hsl5 hsl6 HRL.out).mono ?_
    rintro e w7 ⟨rfl, hb7⟩
    replace hok := hok.step hb7
    replace SL := SL.step hb7
    clear hb7 hsl5 hsl6
    go_wp2_with fail
    have hall : zs.all scB = true := by rw [List.eq_nil_of_length_eq_zero HZL.out]; rfl
    · obtain ⟨t1, t2⟩ := text_back zs hall
      have t3 := textL_len zs
      have hTV : textV zs = .string ⟨(textL zs).toArray⟩ := by unfold textV; rw [hall]; rfl
      have HT8 : Hid (∀ W, Sl .i32 W (.slice a1 0 cap1) zs → Calls Try.prog 19 #[.slice a1 0 cap1] W fun e w' => e = .returned (.tuple #[.string ⟨(textL zs).toArray⟩, .bool true]) ∧ Below W.heap.size W w') := fun W h => by
        have := text_any _ zs W h m2.out
        rw [hTV, hall] at this; exact this
      have HR9 : Hid (∀ W, Calls Try.prog 18 #[.string ⟨(textL zs).toArray⟩] W fun e w' => ∃ v, e = .returned (.tuple #[v, .bool true]) ∧ Sl .i32 w' v zs ∧ Below W.heap.size W w') := fun W => by
        refine (runes_any ⟨(textL zs).toArray⟩ W (by show (textL zs).toArray.size ≤ _; have := m2.out; rw [HZL.out] at *; simp; omega)).mono ?_
        rintro e w' ⟨h1, h2⟩
        have e1 : (ByteArray.mk (textL zs).toArray).data.toList = textL zs := by simp
        rw [e1] at h1
        rcases h1 with ⟨h1, _⟩ | ⟨_, v, h3, h4⟩
        · omega
        · rw [t1] at h4; exact ⟨v, h3, h4, h2⟩
      have HALL : Hid (zs.all scB = true) := hall
      clear t1 t2 t3 hTV hall
      refine (HT8.out _ SL).mono ?_
      rintro e w8 ⟨rfl, hb8⟩
      replace hok := hok.step hb8
      replace SL := SL.step hb8
      clear hb8
      go_wp2_with fail
      go_loop [69] (fun i => ∃ k : Nat, k ≤ 0 ∧ i = .int .i64 k) (fun i => 0 - (intOf i).toNat)
      case atStart => exact ⟨0, by omega, rfl⟩
      case round =>
        obtain ⟨k, hk, rfl⟩ := hrel
        · go_wp2_with fail
          refine (HR9.out _).mono ?_
          rintro e w9 ⟨v9, rfl, hsl9, hb9⟩
          replace hok := hok.step hb9
          replace SL := SL.step hb9
          clear hb9
          go_wp2_with fail
          refine (ints_any _ zs _ SL m2.out HZR.out).mono ?_
          rintro e w10 ⟨v10, rfl, hsl10, hb10⟩
          replace hok := hok.step hb10
          replace SL := SL.step hb10
          replace hsl9 := hsl9.step hb10
          clear hb10
          go_wp2_with fail
          refine (rtext_any _ zs _ hsl10 m2.out).mono ?_
          rintro e w11 ⟨rfl, hb11⟩
          replace hok := hok.step hb11
          replace SL := SL.step hb11
          replace hsl9 := hsl9.step hb11
          clear hb11 hsl10
          go_wp2_with fail
          refine (ints_any _ zs _ hsl9 m2.out HZR.out).mono ?_
          rintro e w12 ⟨v12, rfl, hsl12, hb12⟩
          replace hok := hok.step hb12
          replace SL := SL.step hb12
          clear hb12 hsl9
          go_wp2_with fail
          refine (ints_any _ zs _ SL m2.out HZR.out).mono ?_
          rintro e w13 ⟨v13, rfl, hsl13, hb13⟩
          replace hok := hok.step hb13
          replace hsl12 := hsl12.step hb13
          clear hb13 SL
          go_wp2_with fail
          refine (rsame_any _ _ zs _ hsl12 hsl13 m2.out).mono ?_
          rintro e w14 ⟨rfl, hb14⟩
          replace hok := hok.step hb14
          clear hb14 hsl12 hsl13
          go_wp2_with fail
          refine (uawake_any _).mono ?_
          rintro e w15 ⟨rfl, hb15⟩
          replace hok := hok.step hb15
          clear hb15
          go_wp2_with fail
          go_ret
          exact ⟨rfl, hok.1⟩

theorem walk (a0 : ByteArray) (a1 : Option Addr) (len1 cap1 : Nat) (z1 : List Int) (w : World) (w0 : a0.size ≤ maxLen) (w1 : IsRow .i32 w a1 len1 cap1 z1) :
    Calls Try.prog 5 #[.string a0, .slice a1 len1 cap1] w fun e w' => e = .returned (.bool true) ∧ Below w.heap.size w w' := by
  obtain ⟨zs, hzl, hzr, SL⟩ := sl_of_row w1
  by_cases h0 : len1 = 0
  · subst h0
    exact walk_nil a0 a1 cap1 w w0 zs hzr hzl SL
  · obtain ⟨b, off, rfl, _⟩ := sl_cell SL 0 (by omega)
    refine walk_cons a0 b off len1 cap1 w w0 zs hzr hzl SL fun W h k hk => ?_
    obtain ⟨b', off', e, hc⟩ := sl_cell h k hk
    simp at e
    rw [e.1, e.2]; exact hc

set_option maxRecDepth 100000 in
theorem lifted (os : Os) (started : os.Started) (H : Type) (enc : TypeId × Value → H) :
    ReturnsInHanded {} Try.checked os 5 .any (Rows.utfTextsSpec.pre6 enc Try.prog Try.f5 Rows.utfTextsRow.domain false) (Rows.utfTextsSpec.post enc Try.prog Try.f5 false true false false) := by
  refine returnsInHanded_of_change (C := Try.checked) own started (by kernel_rfl) Try.func5
    (ChangeSpec.witness6 (enc := enc) (C := Try.checked) false ⟨#[], #[.string ByteArray.empty, .slice none 0 0], []⟩ 8 (by kernel_rfl) (by kernel_rfl) (by kernel_rfl) (by kernel_rfl)) ?_
  intro W base args ds gs before hval0 hW hcnd _
  have hval : ∀ (j : Nat) t v, Try.f5.params[j]? = some t → args[j]? = some v → Value.okWide Try.prog W .any base t v := hval0
  have hW' := hW
  obtain ⟨p, q, hA0, hV, rfl, hfz, hnd⟩ := hW
  have hA : DataW.TrodAll enc Try.prog W 0 (fun _ => true) true Try.f5.params.toList args.toList ds p := hA0
  rw [Try.params5] at hA hval
  obtain ⟨v0, vs0, d0, ds0, p0, q0, hargs, rfl, rfl, h0, r0⟩ := trodAll_cons hA
  obtain ⟨v1, vs1, d1, ds1, p1, q1, rfl, rfl, rfl, h1, r1⟩ := trodAll_cons r0
  obtain ⟨rfl, rfl, rfl⟩ := trodAll_nil r1
  obtain rfl : args = #[v0, v1] := by cases args; simp_all
  obtain ⟨rfl, rfl⟩ := trodVars_none hV
  obtain ⟨a0, rfl, rfl, rfl, w0⟩ := open_string Try.underlying9 (hval 0 9 v0 rfl rfl) h0
  obtain ⟨a1, len1, cap1, rfl⟩ := okWide_slice Try.underlying35 (hval 1 35 v1 rfl rfl)
  have k1 := h1
  have lt1 : ∀ x ∈ p1, x.block < W.heap.size := by obtain ⟨m, hm⟩ := k1; exact DataW.trod_lt m _ _ _ hm
  obtain ⟨z1, w1⟩ : ∃ zs, IsRow .i32 W a1 len1 cap1 zs := by
    obtain ⟨fuel, hf⟩ := h1
    rcases open_ints Try.underlying35 Try.underlying21 (by kernel_rfl) hf with ⟨hcs, _⟩ | ⟨x, l, c, zs, hcs, _, hl, hm, hz, _, hcell, hwz⟩
    · simp [Value.cells] at hcs
      obtain ⟨rfl, rfl, rfl⟩ := hcs
      exact ⟨[], .inl ⟨rfl, rfl, rfl, rfl⟩⟩
    · simp [Value.cells] at hcs
      obtain ⟨rfl, rfl, rfl⟩ := hcs
      exact ⟨zs, .inr ⟨_, rfl, hl, hm, by simpa using hz, hcell, hwz⟩⟩
  clear hA0 hval0
  refine (walk a0 a1 len1 cap1 z1 W w0 w1).mono fun e W' ⟨he, bel⟩ => ?_
  subst he
  exact ⟨_, rfl, _, _, _, [], _, [], hW', trodAll_mk1 (shut_bool Try.underlying4 _), (trodAll_cons_mk (shut_string Try.underlying9 w0) (trodAll_cons_mk (Below.trod laidOut (by kernel_rfl) (of_decide_eq_true (by kernel_rfl)) k1 bel lt1) trodAll_mk0)), rfl, bel.frame _, fun h => by cases h⟩

theorem over : Rows.utfTextsRow.holds Try.pinned (OpenSpec.ofChange Rows.utfTextsSpec) :=
  OpenClaim.holds_of_wide 5 Try.f5 rfl rfl rfl rfl rfl rfl rfl ⟨rfl, rfl, rfl, rfl, rfl⟩ rfl rfl rfl rfl rfl (by kernel_rfl) Try.func5 (by kernel_rfl)
    (of_decide_eq_true (by kernel_rfl)) (by unfold Func.isWrapper; first | (rw [if_pos (by decide +kernel)]; kernel_rfl) | (rw [if_neg (by decide +kernel)]; exact ⟨rfl, rfl⟩))
    (fun os started H enc _ => lifted os started H enc)

end Go.Proofs.Ytamohliclidpgab.utfTexts
namespace Go.Proofs.Ytamohliclidpgab
theorem utfTexts_holds : Rows.UtfTextsSaid := utfTexts.over
#print axioms utfTexts_holds
end Go.Proofs.Ytamohliclidpgab
