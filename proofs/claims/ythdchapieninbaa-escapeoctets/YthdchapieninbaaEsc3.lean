import Derived.Test.YthdchapieninbaaEsc2
namespace Go.Proofs.Ythdchapieninbaa
open Go.RowKit

theorem bel_drewN (w : World) (n : Nat) : Below w.heap.size w (w.drewN n) := ⟨rfl, rfl, rfl, Nat.le_refl _, fun _ _ => rfl⟩
theorem rat_bel (s : ByteArray) (k : Nat) (w : World) (hs : s.size ≤ maxLen) :
    Calls Try.prog 30 #[.string s, .int .i64 k] w fun e w' => e = .returned (.int .i64 (atL (s.data.toList.drop k))) ∧ Below w.heap.size w w' :=
  (rat_any s k w hs).mono fun _ _ ⟨h1, n, h2⟩ => ⟨h1, by rw [h2]; exact bel_drewN w n⟩
theorem rof_bel (c : UInt8) (w : World) :
    Calls Try.prog 19 #[.int .u8 (c.toNat : Int)] w fun e w' => e = .returned (.string ⟨(ofU c).toArray⟩) ∧ Below w.heap.size w w' :=
  (rof_any c w).mono fun _ _ ⟨h1, n, h2⟩ => ⟨h1, by rw [h2]; exact bel_drewN w n⟩

/-- Does each percent begin an escape? -/
def rightL : List UInt8 → Bool
  | [] => true
  | a :: l => (!(decide (a.toNat = 37)) || decide (0 ≤ atL (a :: l))) && rightL l

theorem drop1 (s : ByteArray) (k : Nat) (h : k < s.size) : s.data.toList.drop k = s[k] :: s.data.toList.drop (k + 1) := List.drop_eq_getElem_cons (by rw [len_size]; exact h)
theorem drop_end (s : ByteArray) (k : Nat) (h : s.size ≤ k) : s.data.toList.drop k = [] := List.drop_of_length_le (by rw [len_size]; exact h)

set_option maxHeartbeats 400000 in
theorem rright_any (s : ByteArray) (w : World) (hs : s.size ≤ maxLen) :
    Calls Try.prog 12 #[.string s] w fun e w' => e = .returned (.bool (rightL s.data.toList)) ∧ Below w.heap.size w w' := by
  have HM := hid hs
  unfold maxLen at hs
  go_enter Try.func12, Try.ntmps12
  go_wp2
  go_loopw [3] (fun i wr => ∃ k : Nat, k ≤ s.size ∧ i = .int .i64 k ∧ Ok w.heap.size w wr ∧ Hid (rightL s.data.toList = rightL (s.data.toList.drop k))) (fun i _ => s.size - (intOf i).toNat)
  case atStart => exact ⟨0, Nat.zero_le _, rfl, Ok.start w, rfl⟩
  case round =>
    obtain ⟨k, hk, rfl, hok, hin⟩ := hrel
    by_cases hlt : k < s.size
    · have h1 := hin.out
      rw [drop1 s k hlt] at h1
      simp only [rightL] at h1
      rw [← drop1 s k hlt] at h1
      by_cases h37 : s[k].toNat = 37
      · have h37' : (s[k].toNat : Int) = 37 := by omega
        have HA := hid (fun w => rat_bel s k w HM.out)
        by_cases ha : 0 ≤ atL (s.data.toList.drop k)
        · have H : Hid (rightL s.data.toList = rightL (s.data.toList.drop (k + 1))) := by
            show _ = _; rw [h1, decide_eq_true ha, Bool.or_true, Bool.true_and]
          have ha' : ¬ atL (s.data.toList.drop k) < 0 := by omega
          generalize atL (s.data.toList.drop k) = v at *
          clear h1 hin
          go_wp2_with (first | (go_at_call 30; refine (HA.out _).mono ?_; rintro e w' ⟨rfl, hb'⟩; replace hok := hok.step hb'; clear hb'))
          go_roundw
          case rel => exact ⟨k + 1, by omega, by go_num, hok, H⟩
          case measure => simp [intOf]; omega
        · have H : Hid (rightL s.data.toList = false) := by
            show _ = _; rw [h1, decide_eq_false ha, decide_eq_true h37]; rfl
          have ha' : atL (s.data.toList.drop k) < 0 := by omega
          generalize atL (s.data.toList.drop k) = v at *
          clear h1 hin ha
          go_wp2_with (first | (go_at_call 30; refine (HA.out _).mono ?_; rintro e w' ⟨rfl, hb'⟩; replace hok := hok.step hb'; clear hb'))
          go_ret
          exact ⟨ret_bool H.out.symm, hok.1⟩
      · have h37' : ((s[k].toNat : Int) == 37) = false := by rw [beq_eq_false_iff_ne]; omega
        have H : Hid (rightL s.data.toList = rightL (s.data.toList.drop (k + 1))) := by
          show _ = _; rw [h1, decide_eq_false h37]; rfl
        clear h1 hin
        go_wp2_with fail
        go_roundw
        case rel => exact ⟨k + 1, by omega, by go_num, hok, H⟩
        case measure => simp [intOf]; omega
    · have H : Hid (rightL s.data.toList = true) := by
        show _ = _; rw [hin.out, drop_end s k (by omega)]; rfl
      clear hin
      go_wp2_with fail
      go_ret
      exact ⟨ret_bool H.out.symm, hok.1⟩

/-- Each byte that is of none of the classes as an escape. -/
def encL (cl : Int) : List UInt8 → List UInt8
  | [] => []
  | c :: l => (if isB c.toNat cl then [c] else ofU c) ++ encL cl l

theorem app_list (a b : ByteArray) : (a ++ b).data.toList = a.data.toList ++ b.data.toList := by simp
theorem app_size (a b : ByteArray) : (a ++ b).size = a.size + b.size := by simp
theorem ext_one (s : ByteArray) (k : Nat) (h : k < s.size) : (s.extract k (k + 1)).data.toList = [s[k]] := by
  rw [ext_list, drop1 s k h]; simp
theorem sz_list (s : ByteArray) : s.size = s.data.toList.length := (len_size s).symm

set_option maxHeartbeats 400000 in
theorem renc_any (s : ByteArray) (cl : Int) (w : World) (hs : s.size ≤ 1000000) :
    Calls Try.prog 10 #[.string s, .int .i64 cl] w fun e w' => e = .returned (.string ⟨(encL cl s.data.toList).toArray⟩) ∧ Below w.heap.size w w' := by
  go_enter Try.func10, Try.ntmps10
  go_wp2
  go_loopw [5, 6] (fun o i wr => ∃ (k : Nat) (out : ByteArray), k ≤ s.size ∧ o = .string out ∧ i = .int .i64 k ∧ Ok w.heap.size w wr ∧ out.size ≤ 3 * k ∧ Hid (out.data.toList ++ encL cl (s.data.toList.drop k) = encL cl s.data.toList)) (fun _ i _ => s.size - (intOf i).toNat)
  case atStart => exact ⟨0, ⟨#[]⟩, Nat.zero_le _, rfl, rfl, Ok.start w, Nat.zero_le _, rfl⟩
  case round =>
    obtain ⟨k, out, hk, rfl, rfl, hok, hos, hin⟩ := hrel
    by_cases hlt : k < s.size
    · have h1 := hin.out
      rw [drop1 s k hlt] at h1
      simp only [encL] at h1
      by_cases hx : isB (s[k].toNat : Int) cl = true
      · rw [if_pos hx, ← List.append_assoc] at h1
        have H : Hid ((out ++ s.extract k (k + 1)).data.toList ++ encL cl (s.data.toList.drop (k + 1)) = encL cl s.data.toList) := by
          show _ = _; rw [app_list, ext_one s k hlt]; exact h1
        have HZ : Hid ((out ++ s.extract k (k + 1)).size ≤ 3 * (k + 1)) := by
          show _ ≤ _; rw [app_size, sz_list (s.extract k (k + 1)), ext_one s k hlt]; simp; omega
        have hx' : (bits BinOp.and IntKind.i64 (clsI (s[k].toNat : Int)) cl != 0) = true := hx
        clear h1 hin
        go_wp2_with (first | (go_at_call 27; refine (rcls_any _ _ (byte_nn _) (byte_le _)).mono ?_; rintro e w' ⟨rfl, rfl⟩))
        go_roundw
        case rel => exact ⟨k + 1, _, by omega, rfl, by go_num, hok, HZ.out, H⟩
        case measure => simp [intOf]; omega
      · have hx2 : isB (s[k].toNat : Int) cl = false := by simpa using hx
        rw [if_neg hx, ← List.append_assoc] at h1
        have H : Hid ((out ++ ⟨(ofU s[k]).toArray⟩).data.toList ++ encL cl (s.data.toList.drop (k + 1)) = encL cl s.data.toList) := by
          show _ = _; rw [app_list]; simpa using h1
        have HZ : Hid ((out ++ ⟨(ofU s[k]).toArray⟩).size ≤ 3 * (k + 1)) := by
          show _ ≤ _; rw [app_size]; have : (ByteArray.mk (ofU s[k]).toArray).size = 3 := rfl
          omega
        have hx' : (bits BinOp.and IntKind.i64 (clsI (s[k].toNat : Int)) cl != 0) = false := hx2
        have HO := hid (fun w => rof_bel s[k] w)
        have hr3 : (ByteArray.mk (ofU s[k]).toArray).size ≤ 3 := Nat.le_refl 3
        generalize (⟨(ofU s[k]).toArray⟩ : ByteArray) = r at *
        clear h1 hin
        go_wp2_with (first | (go_at_call 27; refine (rcls_any _ _ (byte_nn _) (byte_le _)).mono ?_; rintro e w' ⟨rfl, rfl⟩) | (go_at_call 19; refine (HO.out _).mono ?_; rintro e w' ⟨rfl, hb'⟩; replace hok := hok.step hb'; clear hb'))
        go_roundw
        case rel => exact ⟨k + 1, _, by omega, rfl, by go_num, hok, HZ.out, H⟩
        case measure => simp [intOf]; omega
    · have H : Hid (out.data.toList = encL cl s.data.toList) := by
        have h1 := hin.out
        rw [drop_end s k (by omega)] at h1
        show _ = _; simpa [encL] using h1
      clear hin
      go_wp2_with fail
      go_ret
      exact ⟨ret_string (bytes_ext (by rw [H.out])), hok.1⟩
end Go.Proofs.Ythdchapieninbaa
