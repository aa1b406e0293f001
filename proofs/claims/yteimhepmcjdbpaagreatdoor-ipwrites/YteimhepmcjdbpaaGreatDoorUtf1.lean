import Derived.Test.YteimhepmcjdbpaaGreatDoorBase
import Derived.Test.YteimhepmcjdbpaaGreatDoorUtf0
import Derived.Deep.QuietTactic
import Derived.BigQuiet
namespace Go.Proofs.YteimhepmcjdbpaaGreatDoor
open Go.RowKit

/-- Is a number a scalar value? -/
def scB (r : Int) : Bool := decide ((0 ≤ r ∧ r < 55296) ∨ (57343 < r ∧ r ≤ 1114111))

theorem sc_any (r : Int) (w : World) : Calls Tryz.prog 119 #[.int .i32 r] w fun e w' => e = .returned (.bool (scB r)) ∧ w' = w := by
  have C : r < 0 ∨ (0 ≤ r ∧ r < 55296) ∨ (55296 ≤ r ∧ r ≤ 57343) ∨ (57343 < r ∧ r ≤ 1114111) ∨ 1114111 < r := by omega
  rcases C with h | ⟨h, h'⟩ | ⟨h, h'⟩ | ⟨h, h'⟩ | h
  all_goals
    go_enter Tryz.func119, Tryz.ntmps119
    go_wp2
    go_ret
    exact ⟨ret_bool (by unfold scB; first | (rw [eq_comm, decide_eq_true_iff]; omega) | (rw [eq_comm, decide_eq_false_iff_not]; omega) | (rw [Bool.eq_iff_iff]; simp; omega)), rfl⟩

/-- A scalar value's bytes; of other numbers none. -/
def encS (r : Int) : ByteArray := if scB r then Utf8.encode r else ⟨#[]⟩

theorem enc_any (r : Int) (w : World) : Calls Tryz.prog 107 #[.int .i32 r] w fun e w' => e = .returned (.string (encS r)) ∧ w' = w := by
  by_cases h : scB r = true
  · have H : Hid (encS r = Utf8.encode r) := by show _ = _; unfold encS; rw [if_pos h]
    go_enter Tryz.func107, Tryz.ntmps107
    go_wp2_with (go_at_call 119; refine (sc_any _ _).mono ?_; rintro e w' ⟨rfl, rfl⟩)
    go_ret
    exact ⟨ret_string H.out.symm, rfl⟩
  · have h' : scB r = false := by simpa using h
    have H : Hid (encS r = ⟨#[]⟩) := by show _ = _; unfold encS; rw [h']; rfl
    clear h
    go_enter Tryz.func107, Tryz.ntmps107
    go_wp2_with (go_at_call 119; refine (sc_any _ _).mono ?_; rintro e w' ⟨rfl, rfl⟩)
    go_ret
    exact ⟨ret_string H.out.symm, rfl⟩

/-- Do the bytes of FFFD begin a text? -/
def signB (l : List UInt8) : Bool := l.take 3 == [239, 191, 189]

theorem fault_no (s : ByteArray) (i r : Int) (w : World) (h : r ≠ 65533) : Calls Tryz.prog 105 #[.string s, .int .i64 i, .int .i32 r] w fun e w' => e = .returned (.bool false) ∧ w' = w := by
  have h' : (r == 65533) = false := by simpa using h
  clear h
  go_enter Tryz.func105, Tryz.ntmps105
  go_wp2
  go_ret
  exact ⟨rfl, rfl⟩

theorem fault_is (s : ByteArray) (i : Nat) (w : World) (hi : i ≤ s.size) : Calls Tryz.prog 105 #[.string s, .int .i64 i, .int .i32 65533] w fun e w' => e = .returned (.bool (!signB (s.data.toList.drop i))) ∧ w' = w := by
  by_cases h3 : 3 ≤ s.size - i
  · have H : Hid (((s.extract i s.size).extract 0 3).toList = (s.data.toList.drop i).take 3) := by
      show _ = _
      rw [ByteArray.toList_eq, ext_list, ext_end]; rfl
    go_enter Tryz.func105, Tryz.ntmps105
    go_wp2
    go_ret
    exact ⟨ret_bool (by show (!(_ == _)) = (!signB _); unfold signB; rw [H.out]), rfl⟩
  · have H : Hid (signB (s.data.toList.drop i) = false) := by
      show (_ == _) = _
      rw [beq_eq_false_iff_ne]
      intro e
      have e2 := congrArg List.length e
      simp at e2; omega
    go_enter Tryz.func105, Tryz.ntmps105
    go_wp2
    go_ret
    exact ⟨ret_bool (by rw [H.out]; rfl), rfl⟩

/-- The row as the program keeps it. -/
def rowV (b : Nat) : Value := .agg #[.int .i64 (rowB b).1, .int .u8 (rowB b).2.1, .int .u8 (rowB b).2.2]

set_option maxHeartbeats 1000000 in
theorem row_any (b : Nat) (hb : b < 256) (w : World) : Calls Tryz.prog 118 #[.int .u8 b] w fun e w' => e = .returned (rowV b) ∧ Below w.heap.size w w' := by
  have C := rowB_cases b hb
  unfold rowV
  rcases C with ⟨c, e⟩ | ⟨c, c', e⟩ | ⟨c, e⟩ | ⟨c, c', e⟩ | ⟨c, e⟩ | ⟨c, c', e⟩ | ⟨c, e⟩ | ⟨c, c', e⟩ | ⟨c, e⟩ | ⟨c | c, e⟩
  all_goals
    rw [e]
    clear e
    go_enter Tryz.func118, Tryz.ntmps118
    go_wp2
    exact bodyPost_ret (v := .agg #[_, _, _]) (by simp [results, Tryz.results118, go_sem]) rfl ⟨rfl, ((Below.refl _ _).alloc (Nat.le_refl _) _)⟩

theorem bt_at (s : ByteArray) (k : Nat) (h : k < s.size) : bt s.data.toList k = s[k].toNat := by
  unfold bt
  rw [List.getD_eq_getElem?_getD, List.getElem?_eq_getElem (by simpa using h)]; rfl

set_option maxHeartbeats 2000000 in
theorem fsize_any (s : ByteArray) (w : World) (h0 : 0 < s.size) : Calls Tryz.prog 106 #[.string s] w fun e w' => e = .returned (.int .i64 (fit s.data.toList)) ∧ Below w.heap.size w w' := by
  have hbt0 := bt_at s 0 h0
  have hr4 := rowB_le (bt s.data.toList 0)
  have hrow := fun (w : World) => row_any s[0].toNat (by have := s[0].toNat_lt; omega) w
  rw [← hbt0] at hrow
  have G : ∀ j, goOn s.data.toList j ↔ j < (rowB (bt s.data.toList 0)).1 ∧ j < s.size ∧ (if j = 1 then (rowB (bt s.data.toList 0)).2.1 else 128) ≤ bt s.data.toList j ∧ bt s.data.toList j ≤ (if j = 1 then (rowB (bt s.data.toList 0)).2.2 else 191) := by
    intro j; unfold goOn; rw [len_size]
  unfold rowV at hrow
  have hb0 : Hid (bt s.data.toList 0 = s[0].toNat) := hbt0
  clear hbt0
  generalize (rowB (bt s.data.toList 0)).1 = sz at *
  generalize (rowB (bt s.data.toList 0)).2.1 = lo at *
  generalize (rowB (bt s.data.toList 0)).2.2 = hi at *
  have GH : Hid (∀ j, goOn s.data.toList j ↔ j < sz ∧ j < s.size ∧ (if j = 1 then lo else 128) ≤ bt s.data.toList j ∧ bt s.data.toList j ≤ (if j = 1 then hi else 191)) := G
  clear G
  have HR : Hid (∀ w, Calls Tryz.prog 118 #[.int .u8 (bt s.data.toList 0)] w fun e w' => e = .returned (.agg #[.int .i64 sz, .int .u8 lo, .int .u8 hi]) ∧ Below w.heap.size w w') := hrow
  clear hrow
  go_enter Tryz.func106, Tryz.ntmps106
  go_wp2_with fail
  rw [← hb0.out]
  refine (HR.out _).mono ?_
  rintro e w1 ⟨rfl, hb1⟩
  go_wp2_with fail
  go_quiet (fail)
  go_wp2
  have hbel : Below w.heap.size w ((w1.alloc (Obj.cells #[Value.int IntKind.i64 ↑sz, Value.int IntKind.u8 ↑lo, Value.int IntKind.u8 ↑hi] 148)).drewN nq) := by
    have := hb1.alloc hb1.size (Obj.cells #[Value.int IntKind.i64 ↑sz, Value.int IntKind.u8 ↑lo, Value.int IntKind.u8 ↑hi] 148)
    exact ⟨this.os, this.tape, this.output, this.size, this.block⟩
  go_loop [4, 5, 6] (fun a b i => ∃ k : Nat, 1 ≤ k ∧ k ≤ 4 ∧ i = .int .i64 k ∧ a = .int .u8 ((if k = 1 then lo else 128 : Nat) : Int) ∧ b = .int .u8 ((if k = 1 then hi else 191 : Nat) : Int) ∧ Hid (∀ j, 1 ≤ j → j < k → goOn s.data.toList j)) (fun _ _ i => 5 - (intOf i).toNat)
  case atStart => exact ⟨1, by omega, by omega, rfl, rfl, rfl, fun j h h' => by omega⟩
  case round =>
    obtain ⟨k, hk1, hk4, rfl, rfl, rfl, hin⟩ := hrel
    have gk := GH.out k
    have stop : ¬ goOn s.data.toList k → Hid (fit s.data.toList = k) := fun hn => fit_eq _ k hk1 hin.out hn
    clear HR GH
    generalize (if k = 1 then lo else 128 : Nat) = L at *
    generalize (if k = 1 then hi else 191 : Nat) = H at *
    by_cases c1 : k < sz
    · by_cases c2 : k < s.size
      · rw [bt_at s k c2] at gk
        by_cases c3 : L ≤ s[k].toNat
        · by_cases c4 : s[k].toNat ≤ H
          · have g := gk.2 ⟨c1, c2, c3, c4⟩
            have hin' : Hid (∀ j, 1 ≤ j → j < k + 1 → goOn s.data.toList j) := fun j a b => by
              by_cases e : j = k
              · subst e; exact g
              · exact hin.out j a (by omega)
            clear gk stop
            have n1 : ¬ k + 1 = 1 := by omega
            have c3' : (L : Int) ≤ (s[k].toNat : Int) := by omega
            have c4' : (s[k].toNat : Int) ≤ (H : Int) := by omega
            go_wp2
            go_round
            case rel => exact ⟨k + 1, by omega, by omega, by go_num, by rw [if_neg n1]; rfl, by rw [if_neg n1]; rfl, hin'⟩
            case measure => simp [intOf]; omega
          · have HF := stop (fun g => c4 (gk.1 g).2.2.2)
            have c3' : (L : Int) ≤ (s[k].toNat : Int) := by omega
            have c4' : ¬ (s[k].toNat : Int) ≤ (H : Int) := by omega
            clear gk stop
            go_wp2
            go_ret
            exact ⟨ret_int (by rw [HF.out]), hbel⟩
        · have HF := stop (fun g => c3 (gk.1 g).2.2.1)
          have c3' : ¬ (L : Int) ≤ (s[k].toNat : Int) := by omega
          clear gk stop
          go_wp2
          go_ret
          exact ⟨ret_int (by rw [HF.out]), hbel⟩
      · have HF := stop (fun g => c2 (gk.1 g).2.1)
        clear gk stop
        go_wp2
        go_ret
        exact ⟨ret_int (by rw [HF.out]), hbel⟩
    · have HF := stop (fun g => c1 (gk.1 g).1)
      clear gk stop
      go_wp2
      go_ret
      exact ⟨ret_int (by rw [HF.out]), hbel⟩
end Go.Proofs.YteimhepmcjdbpaaGreatDoor
