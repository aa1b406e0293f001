import Derived.Test.YteimhepmcjdbpaaGreatDoorIp7
import Derived.Test.YteimhepmcjdbpaaGreatDoorLex1
namespace Go.Proofs.YteimhepmcjdbpaaGreatDoor
open Go.RowKit
namespace Ip

/-- A byte that may stand in a literal of later times; is a text one? -/
def plU (x : UInt8) : Bool := Le.plB 1 x.toNat
def fuL : List UInt8 → List UInt8 → Bool → Bool
  | [], _, _ => false
  | a :: d, rest, f => f && decide (rest ≠ []) && decide (a = 118 ∨ a = 86) && decide (d ≠ []) && d.all hxB && rest.all plU
def fuB (l : List UInt8) : Bool := fuL (cuG [46] l).1 (cuG [46] l).2.1 (cuG [46] l).2.2

theorem hex_is32 : ((List.range 256).all fun n => isB (n : Int) 32 == hxB (UInt8.ofNat n)) = true := by decide +kernel
theorem isB_hex (x : UInt8) : isB (x.toNat : Int) 32 = hxB x := by
  have := List.all_eq_true.1 hex_is32 x.toNat (by have := x.toNat_lt; simp; omega)
  simpa using this
theorem low_v : ((List.range 256).all fun n => (lowU (UInt8.ofNat n) == 118) == decide (UInt8.ofNat n = 118 ∨ UInt8.ofNat n = 86)) = true := by decide +kernel
theorem lowU_v (x : UInt8) : (lowU x == 118) = decide (x = 118 ∨ x = 86) := by
  have := List.all_eq_true.1 low_v x.toNat (by have := x.toNat_lt; simp; omega)
  simpa using this
theorem same_v (s : ByteArray) (a : UInt8) (d : List UInt8) (h : s.data.toList = a :: d) : eqS (lowS (s.extract 0 1)) (lowS ⟨#[118]⟩) = decide (a = 118 ∨ a = 86) := by
  have e : (s.extract 0 1).data.toList = [a] := by rw [ext_list, h]; rfl
  rw [← lowU_v]
  unfold eqS
  rw [ByteArray.toList_eq, ByteArray.toList_eq]
  unfold lowS
  rw [e]
  show ([lowU a] == [lowU 118]) = _
  have e2 : lowU 118 = 118 := by decide
  rw [e2]
  simp

set_option maxHeartbeats 1000000 in
theorem plain_any (s : ByteArray) (w : World) (hs : s.size ≤ maxLen) :
    Calls Tryz.prog 27 #[.string s] w fun e w' => e = .returned (.bool (s.data.toList.all plU)) ∧ w' = w := by
  unfold maxLen at hs
  obtain ⟨v, hv⟩ : ∃ v, s.data.toList.all plU = v := ⟨_, rfl⟩
  have HV := hid hv
  rw [hv]
  clear hv
  go_enter Tryz.func27, Tryz.ntmps27
  go_wp2
  go_loop [6] (fun i => ∃ k : Nat, k ≤ s.size ∧ i = .int .i64 k ∧ Hid ((s.data.toList.take k).all plU = true)) (fun i => s.size - (intOf i).toNat)
  case atStart => exact ⟨0, Nat.zero_le _, rfl, rfl⟩
  case round =>
    obtain ⟨k, hk, rfl, hA⟩ := hrel
    by_cases hlt : k < s.size
    · have HP := hid (fun w => Le.pl_any 1 (s[k].toNat : Int) w (byte_nn _) (byte_le _))
      cases hp : Le.plB 1 (s[k].toNat : Int)
      · have H : Hid (v = false) := by
          show _ = _
          rw [← HV.out]
          rw [List.all_eq_false]
          exact ⟨s[k], List.getElem_mem (l := s.data.toList) (by rw [len_size]; exact hlt), by show ¬ Le.plB 1 (s[k].toNat : Int) = true; rw [hp]; simp⟩
        rw [hp] at HP
        clear hp
        go_wp2_with fail
        refine (HP.out _).mono ?_
        rintro e w' ⟨rfl, rfl⟩
        go_wp2_with fail
        go_ret
        exact ⟨ret_bool H.out.symm, rfl⟩
      · have H : Hid ((s.data.toList.take (k + 1)).all plU = true) := by
          show _ = _
          rw [take_snoc s k hlt, List.all_append, hA.out]
          simp only [List.all_cons, List.all_nil, Bool.and_true, Bool.true_and]
          exact hp
        rw [hp] at HP
        clear hp
        go_wp2_with fail
        refine (HP.out _).mono ?_
        rintro e w' ⟨rfl, rfl⟩
        go_wp2_with fail
        go_round
        case rel => exact ⟨k + 1, by omega, by go_num, H⟩
        case measure => simp [intOf]; omega
    · have H : Hid (v = true) := by
        show _ = _
        rw [← HV.out, ← hA.out, List.take_of_length_le (by rw [len_size]; omega)]
      go_wp2_with fail
      go_ret
      exact ⟨ret_bool H.out.symm, rfl⟩

theorem empty_is (l : List UInt8) : (ByteArray.mk l.toArray).toList.isEmpty = l.isEmpty := by
  rw [ByteArray.toList_eq]

set_option maxRecDepth 100000 in
set_option maxHeartbeats 4000000 in
theorem fut_any (s : ByteArray) (w : World) (hs : s.size ≤ 1000) (hg : Gl w) :
    Calls Tryz.prog 11 #[.string s] w fun e w' => e = .returned (.bool (fuB s.data.toList)) ∧ Below w.heap.size w w' := by
  have hok := Ok.start w
  have HC := hid (cut_any s ⟨#[46]⟩ w hs (by simp) hg)
  have e46 : (ByteArray.mk #[46]).data.toList = [46] := rfl
  rw [e46] at HC
  have hl := cuG_len [46] s.data.toList
  rw [len_size] at hl
  unfold fuB
  generalize (cuG [46] s.data.toList).1 = ver at *
  generalize (cuG [46] s.data.toList).2.1 = rest at *
  generalize (cuG [46] s.data.toList).2.2 = f at *
  have E1 := empty_is ver
  have E2 := empty_is rest
  have HP := hid (fun w => plain_any ⟨rest.toArray⟩ w (by show rest.toArray.size ≤ _; unfold maxLen; simp; omega))
  have er : ∀ l : List UInt8, (ByteArray.mk l.toArray).data.toList = l := fun l => by simp
  rw [er] at HP
  have bad : Hid (fuL ver rest f = false) → ∀ W, Below w.heap.size w W → (Ending.returned (.bool false) = Ending.returned (.bool (fuL ver rest f)) ∧ Below w.heap.size w W) := fun h W hb => ⟨ret_bool h.out.symm, hb⟩
  have HB := hid bad
  clear bad e46
  cases f
  · have HF : Hid (fuL ver rest false = false) := by show _ = _; cases ver <;> rfl
    clear E1 E2 HP
    go_enter Tryz.func11, Tryz.ntmps11
    go_wp2_with fail
    refine (HC.out).mono ?_
    rintro e w' ⟨rfl, hb'⟩
    replace hok := hok.step hb'
    clear hb'
    go_wp2_with fail
    go_ret
    exact HB.out HF _ hok.1
  cases rest with
  | nil =>
    have HF : Hid (fuL ver [] true = false) := by show _ = _; cases ver <;> rfl
    clear E1 HP
    generalize (ByteArray.mk ([] : List UInt8).toArray) = rr at *
    have E2 : rr.toList.isEmpty = true := E2
    go_enter Tryz.func11, Tryz.ntmps11
    go_wp2_with fail
    refine (HC.out).mono ?_
    rintro e w' ⟨rfl, hb'⟩
    replace hok := hok.step hb'
    clear hb'
    go_wp2_with fail
    go_ret
    exact HB.out HF _ hok.1
  | cons b r =>
    have E2 : (ByteArray.mk (b :: r).toArray).toList.isEmpty = false := E2
    generalize (ByteArray.mk (b :: r).toArray) = rr at *
    cases ver with
    | nil =>
      have HF : Hid (fuL [] (b :: r) true = false) := rfl
      have E1 : (ByteArray.mk ([] : List UInt8).toArray).toList.isEmpty = true := E1
      clear HP
      generalize (ByteArray.mk ([] : List UInt8).toArray) = vv at *
      go_enter Tryz.func11, Tryz.ntmps11
      go_wp2_with fail
      refine (HC.out).mono ?_
      rintro e w' ⟨rfl, hb'⟩
      replace hok := hok.step hb'
      clear hb'
      go_wp2_with fail
      go_ret
      exact HB.out HF _ hok.1
    | cons a d =>
      have E1 : (ByteArray.mk (a :: d).toArray).toList.isEmpty = false := E1
      have hv := er (a :: d)
      have hvs : 1 ≤ (ByteArray.mk (a :: d).toArray).size ∧ (ByteArray.mk (a :: d).toArray).size ≤ 1000 := by
        show 1 ≤ (a :: d).toArray.size ∧ (a :: d).toArray.size ≤ 1000
        simp at hl ⊢; omega
      generalize (ByteArray.mk (a :: d).toArray) = vv at *
      have hsz1 : (vv.extract 0 1).size ≤ maxLen := by
        have h := len_size (vv.extract 0 1); rw [ext_list, hv] at h; change 1 = _ at h; unfold maxLen; omega
      have HS := hid (fun w => same_any (vv.extract 0 1) ⟨#[118]⟩ w hsz1 (by decide))
      rw [same_v vv a d hv] at HS
      have hdl : (vv.extract 1 vv.size).data.toList = d := by rw [ext_end, hv]; rfl
      have hdz : (vv.extract 1 vv.size).size ≤ maxLen := by rw [ext_size]; unfold maxLen; omega
      have HSp := hid (fun w => span_any (vv.extract 1 vv.size) 32 w hdz)
      have hds : (vv.extract 1 vv.size).size = d.length := by rw [← len_size, hdl]
      have E3 : (vv.extract 1 vv.size).toList.isEmpty = d.isEmpty := by rw [ByteArray.toList_eq, hdl]
      rw [hdl] at HSp
      have hsp := span_all 32 hxB isB_hex d
      have hle := span_le 32 d
      obtain ⟨hv1, hv2⟩ := hvs
      have hv1' : (1 : Int) ≤ (vv.size : Int) := by omega
      clear hdl hdz hsz1 hv hl
      by_cases hav : a = 118 ∨ a = 86
      · rw [decide_eq_true hav] at HS
        by_cases hd : d = []
        · have HF : Hid (fuL (a :: d) (b :: r) true = false) := by show _ = _; unfold fuL; simp [hd]
          replace E3 : (vv.extract 1 vv.size).toList.isEmpty = true := by rw [E3, hd]; rfl
          clear HP HSp hsp hle hd hav
          go_enter Tryz.func11, Tryz.ntmps11
          go_wp2_with fail
          refine (HC.out).mono ?_
          rintro e w' ⟨rfl, hb'⟩
          replace hok := hok.step hb'
          clear hb'
          go_wp2_with fail
          refine (HS.out _).mono ?_
          rintro e w' ⟨rfl, hb'⟩
          replace hok := hok.step hb'
          clear hb'
          go_wp2_with fail
          go_ret
          exact HB.out HF _ hok.1
        · replace E3 : (vv.extract 1 vv.size).toList.isEmpty = false := by rw [E3]; cases d with | nil => exact absurd rfl hd | cons => rfl
          by_cases hx : d.all hxB = true
          · have HF : Hid (fuL (a :: d) (b :: r) true = (b :: r).all plU) := by show _ = _; unfold fuL; simp [hd, hx, hav]
            rw [hsp.2 hx, ← hds] at HSp
            clear hsp hle hd hav hx
            generalize (b :: r).all plU = v at *
            go_enter Tryz.func11, Tryz.ntmps11
            go_wp2_with fail
            refine (HC.out).mono ?_
            rintro e w' ⟨rfl, hb'⟩
            replace hok := hok.step hb'
            clear hb'
            go_wp2_with fail
            refine (HS.out _).mono ?_
            rintro e w' ⟨rfl, hb'⟩
            replace hok := hok.step hb'
            clear hb'
            go_wp2_with fail
            refine (HSp.out _).mono ?_
            rintro e w' ⟨rfl, rfl⟩
            go_wp2_with fail
            refine (HP.out _).mono ?_
            rintro e w' ⟨rfl, rfl⟩
            go_wp2_with fail
            go_ret
            exact ⟨ret_bool HF.out.symm, hok.1⟩
          · have HF : Hid (fuL (a :: d) (b :: r) true = false) := by show _ = _; unfold fuL; simp [hx]
            have hne : spanN 32 d ≠ d.length := fun e => hx (hsp.1 e)
            have hne' : ((spanN 32 d : Int) == ((vv.extract 1 vv.size).size : Int)) = false := by rw [beq_eq_false_iff_ne]; omega
            have hes := ext_size vv 1
            have hne2 : ((spanN 32 d : Int) == ((vv.size - 1 : Nat) : Int)) = false := by rw [beq_eq_false_iff_ne]; omega
            have hne3 : ((spanN 32 d : Int) == (vv.size : Int) - 1) = false := by rw [beq_eq_false_iff_ne]; omega
            have hne4 : ((spanN 32 d : Int) == (d.length : Int)) = false := by rw [beq_eq_false_iff_ne]; omega
            clear hsp hle hd hav hx hne HP hes
            generalize spanN 32 d = n at *
            go_enter Tryz.func11, Tryz.ntmps11
            go_wp2_with fail
            refine (HC.out).mono ?_
            rintro e w' ⟨rfl, hb'⟩
            replace hok := hok.step hb'
            clear hb'
            go_wp2_with fail
            refine (HS.out _).mono ?_
            rintro e w' ⟨rfl, hb'⟩
            replace hok := hok.step hb'
            clear hb'
            go_wp2_with fail
            refine (HSp.out _).mono ?_
            rintro e w' ⟨rfl, rfl⟩
            go_wp2_with fail
            go_ret
            exact HB.out HF _ hok.1
      · rw [decide_eq_false hav] at HS
        have HF : Hid (fuL (a :: d) (b :: r) true = false) := by show _ = _; unfold fuL; simp [hav]
        clear HP HSp hsp hle hav
        go_enter Tryz.func11, Tryz.ntmps11
        go_wp2_with fail
        refine (HC.out).mono ?_
        rintro e w' ⟨rfl, hb'⟩
        replace hok := hok.step hb'
        clear hb'
        go_wp2_with fail
        refine (HS.out _).mono ?_
        rintro e w' ⟨rfl, hb'⟩
        replace hok := hok.step hb'
        clear hb'
        go_wp2_with fail
        go_ret
        exact HB.out HF _ hok.1
end Ip
end Go.Proofs.YteimhepmcjdbpaaGreatDoor
