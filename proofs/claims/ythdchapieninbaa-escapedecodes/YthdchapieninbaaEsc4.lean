import Derived.Test.YthdchapieninbaaEsc3
namespace Go.Proofs.Ythdchapieninbaa
open Go.RowKit

/-- The octet of the escape that begins a text. -/
def octL (l : List UInt8) : UInt8 := UInt8.ofNat (atL l).toNat
theorem octL_is (l : List UInt8) (h : 0 ≤ atL l) : ((octL l).toNat : Int) = atL l := by
  have e : (octL l).toNat = (atL l).toNat % 256 := UInt8.toNat_ofNat'
  have := atL_lt l
  omega

/-- Something else in each escape's place, made of how it is written and of its octet. -/
def repl (f : List UInt8 → UInt8 → List UInt8) : List UInt8 → List UInt8
  | a :: b :: c :: r => if 0 ≤ atL (a :: b :: c :: r) then f [a, b, c] (octL (a :: b :: c :: r)) ++ repl f r else a :: repl f (b :: c :: r)
  | [a, b] => [a, b]
  | [a] => [a]
  | [] => []

theorem repl_short (f : List UInt8 → UInt8 → List UInt8) (l : List UInt8) (h : l.length ≤ 2) : repl f l = l := by
  match l, h with
  | [], _ => rfl
  | [_], _ => rfl
  | [_, _], _ => rfl

theorem ext_three (s : ByteArray) (k : Nat) (h : k + 2 < s.size) : (s.extract k (k + 3)).data.toList = [s[k], s[k + 1], s[k + 2]] := by
  rw [ext_list, drop3 s k h, Nat.add_sub_cancel_left]; rfl

theorem at_fits (s : ByteArray) (k : Nat) (h : 0 ≤ atL (s.data.toList.drop k)) : k + 2 < s.size := by
  by_cases hk : k + 2 < s.size
  · exact hk
  · rw [at_out s k (by omega)] at h; omega

theorem repl_yes (f : List UInt8 → UInt8 → List UInt8) (s : ByteArray) (k : Nat) (h : 0 ≤ atL (s.data.toList.drop k)) :
    repl f (s.data.toList.drop k) = f (s.extract k (k + 3)).data.toList (octL (s.data.toList.drop k)) ++ repl f (s.data.toList.drop (k + 3)) := by
  have hk := at_fits s k h
  rw [ext_three s k hk]
  rw [drop3 s k hk] at h ⊢
  rw [repl, if_pos h]

theorem repl_no (f : List UInt8 → UInt8 → List UInt8) (s : ByteArray) (k : Nat) (hk : k < s.size) (h : atL (s.data.toList.drop k) < 0) :
    repl f (s.data.toList.drop k) = s[k] :: repl f (s.data.toList.drop (k + 1)) := by
  by_cases hk2 : k + 2 < s.size
  · have e1 : s.data.toList.drop (k + 1) = s[k + 1] :: s[k + 2] :: s.data.toList.drop (k + 3) := by
      rw [drop1 s (k + 1) (by omega), drop1 s (k + 2) hk2]
    rw [e1]
    rw [drop3 s k hk2] at h ⊢
    rw [repl, if_neg (by omega)]
  · rw [repl_short f (s.data.toList.drop (k + 1)) (by rw [List.length_drop, len_size]; omega), repl_short f (s.data.toList.drop k) (by rw [List.length_drop, len_size]; omega), drop1 s k hk]

/-- What the reference puts in an escape's place. -/
def fS (cl : Int) (all up : Bool) (written : List UInt8) (c : UInt8) : List UInt8 := if all = true ∨ isB c.toNat cl = true then [c] else if up = true then ofU c else written

theorem conv_byte (c : UInt8) : (c.toNat : Int) % 256 = (c.toNat : Int) := by have := c.toNat_lt; omega

set_option maxHeartbeats 1000000 in
theorem rsome_any (s : ByteArray) (cl : Int) (all up : Bool) (w : World) (hs : s.size ≤ 1000000) :
    Calls Try.prog 13 #[.string s, .int .i64 cl, .bool all, .bool up] w fun e w' => e = .returned (.string ⟨(repl (fS cl all up) s.data.toList).toArray⟩) ∧ Below w.heap.size w w' := by
  have HM : Hid (s.size ≤ maxLen) := by show _ ≤ _; unfold maxLen; omega
  go_enter Try.func13, Try.ntmps13
  go_wp2
  go_loopw [9, 10] (fun o i wr => ∃ (k : Nat) (out : ByteArray), k ≤ s.size ∧ o = .string out ∧ i = .int .i64 k ∧ Ok w.heap.size w wr ∧ out.size ≤ 3 * k ∧ Hid (out.data.toList ++ repl (fS cl all up) (s.data.toList.drop k) = repl (fS cl all up) s.data.toList)) (fun _ i _ => s.size - (intOf i).toNat)
  case atStart => exact ⟨0, ⟨#[]⟩, Nat.zero_le _, rfl, rfl, Ok.start w, Nat.zero_le _, rfl⟩
  case round =>
    obtain ⟨k, out, hk, rfl, rfl, hok, hos, hin⟩ := hrel
    by_cases hlt : k < s.size
    · have h1 := hin.out
      have HA := rat_bel s k
      by_cases ha : 0 ≤ atL (s.data.toList.drop k)
      · have hk2 := at_fits s k ha
        rw [repl_yes _ s k ha, ← List.append_assoc] at h1
        have ho := octL_is _ ha
        rw [← ho] at HA
        generalize octL (s.data.toList.drop k) = c at *
        have HA := hid (fun w => HA w HM.out)
        have hc0 := byte_nn c
        have hc1 := byte_le c
        have hcb := conv_byte c
        have hn0 : ¬ (c.toNat : Int) < 0 := by omega
        clear ho ha hin
        by_cases hd : all = true ∨ isB c.toNat cl = true
        · have hf : fS cl all up (s.extract k (k + 3)).data.toList c = [c] := by unfold fS; rw [if_pos hd]
          rw [hf] at h1
          have H : Hid ((out ++ ⟨#[c]⟩).data.toList ++ repl (fS cl all up) (s.data.toList.drop (k + 3)) = repl (fS cl all up) s.data.toList) := by
            show _ = _; rw [app_list]; exact h1
          have HZ : Hid ((out ++ ⟨#[c]⟩).size ≤ 3 * (k + 3)) := by
            show _ ≤ _; rw [app_size]; have : (ByteArray.mk #[c]).size = 1 := rfl
            omega
          have HC := hid (fun w => conv_one c w)
          have hr3 : (ByteArray.mk #[c]).size ≤ 3 := by show 1 ≤ 3; omega
          clear h1 hf
          cases all
          · have hx : isB c.toNat cl = true := by simpa using hd
            have hx' : (bits BinOp.and IntKind.i64 (clsI (c.toNat : Int)) cl != 0) = true := hx
            clear hd
            go_wp2_with (first | (go_at_call 30; refine (HA.out _).mono ?_; rintro e w' ⟨rfl, hb'⟩; replace hok := hok.step hb'; clear hb'; have hconv := HC.out w') | (go_at_call 27; refine (rcls_any _ _ hc0 hc1).mono ?_; rintro e w' ⟨rfl, rfl⟩))
            go_roundw
            case rel => exact ⟨k + 3, _, by omega, rfl, by go_num, hok.alloc, HZ.out, H⟩
            case measure => simp [intOf]; omega
          · clear hd
            go_wp2_with (first | (go_at_call 30; refine (HA.out _).mono ?_; rintro e w' ⟨rfl, hb'⟩; replace hok := hok.step hb'; clear hb'; have hconv := HC.out w') | (go_at_call 27; refine (rcls_any _ _ hc0 hc1).mono ?_; rintro e w' ⟨rfl, rfl⟩))
            go_roundw
            case rel => exact ⟨k + 3, _, by omega, rfl, by go_num, hok.alloc, HZ.out, H⟩
            case measure => simp [intOf]; omega
        · have ha1 : all = false := by cases all <;> simp_all
          have hx : isB c.toNat cl = false := by cases h : isB (c.toNat : Int) cl <;> simp_all
          have hx' : (bits BinOp.and IntKind.i64 (clsI (c.toNat : Int)) cl != 0) = false := hx
          subst ha1
          cases up
          · have hf : fS cl false false (s.extract k (k + 3)).data.toList c = (s.extract k (k + 3)).data.toList := by unfold fS; rw [if_neg hd]; rfl
            rw [hf] at h1
            have H : Hid ((out ++ s.extract k (k + 3)).data.toList ++ repl (fS cl false false) (s.data.toList.drop (k + 3)) = repl (fS cl false false) s.data.toList) := by
              show _ = _; rw [app_list]; exact h1
            have HZ : Hid ((out ++ s.extract k (k + 3)).size ≤ 3 * (k + 3)) := by
              show _ ≤ _; rw [app_size, sz_list (s.extract k (k + 3)), ext_three s k hk2]; simp; omega
            have hk3 : (k : Int) + 3 ≤ (s.size : Int) := by omega
            clear h1 hf hd
            go_wp2_with (first | (go_at_call 30; refine (HA.out _).mono ?_; rintro e w' ⟨rfl, hb'⟩; replace hok := hok.step hb'; clear hb') | (go_at_call 27; refine (rcls_any _ _ hc0 hc1).mono ?_; rintro e w' ⟨rfl, rfl⟩))
            go_roundw
            case rel => exact ⟨k + 3, _, by omega, rfl, by go_num, hok, HZ.out, H⟩
            case measure => simp [intOf]; omega
          · have hf : fS cl false true (s.extract k (k + 3)).data.toList c = ofU c := by unfold fS; rw [if_neg hd]; rfl
            rw [hf] at h1
            have H : Hid ((out ++ ⟨(ofU c).toArray⟩).data.toList ++ repl (fS cl false true) (s.data.toList.drop (k + 3)) = repl (fS cl false true) s.data.toList) := by
              show _ = _; rw [app_list]; simpa using h1
            have HZ : Hid ((out ++ ⟨(ofU c).toArray⟩).size ≤ 3 * (k + 3)) := by
              show _ ≤ _; rw [app_size]; have : (ByteArray.mk (ofU c).toArray).size = 3 := rfl
              omega
            have HO := hid (fun w => rof_bel c w)
            have hr3 : (ByteArray.mk (ofU c).toArray).size ≤ 3 := Nat.le_refl 3
            generalize (⟨(ofU c).toArray⟩ : ByteArray) = r at *
            clear h1 hf hd
            go_wp2_with (first | (go_at_call 30; refine (HA.out _).mono ?_; rintro e w' ⟨rfl, hb'⟩; replace hok := hok.step hb'; clear hb') | (go_at_call 27; refine (rcls_any _ _ hc0 hc1).mono ?_; rintro e w' ⟨rfl, rfl⟩) | (go_at_call 19; refine (HO.out _).mono ?_; rintro e w' ⟨rfl, hb'⟩; replace hok := hok.step hb'; clear hb'))
            go_roundw
            case rel => exact ⟨k + 3, _, by omega, rfl, by go_num, hok, HZ.out, H⟩
            case measure => simp [intOf]; omega
      · have ha' : atL (s.data.toList.drop k) < 0 := by omega
        rw [repl_no _ s k hlt ha'] at h1
        have H : Hid ((out ++ s.extract k (k + 1)).data.toList ++ repl (fS cl all up) (s.data.toList.drop (k + 1)) = repl (fS cl all up) s.data.toList) := by
          show _ = _; rw [app_list, ext_one s k hlt, List.append_assoc]; exact h1
        have HZ : Hid ((out ++ s.extract k (k + 1)).size ≤ 3 * (k + 1)) := by
          show _ ≤ _; rw [app_size, sz_list (s.extract k (k + 1)), ext_one s k hlt]; simp; omega
        have HA := hid (fun w => HA w HM.out)
        generalize atL (s.data.toList.drop k) = v at *
        clear h1 hin ha
        go_wp2_with (first | (go_at_call 30; refine (HA.out _).mono ?_; rintro e w' ⟨rfl, hb'⟩; replace hok := hok.step hb'; clear hb'))
        go_roundw
        case rel => exact ⟨k + 1, _, by omega, rfl, by go_num, hok, HZ.out, H⟩
        case measure => simp [intOf]; omega
    · have H : Hid (out.data.toList = repl (fS cl all up) s.data.toList) := by
        have h1 := hin.out
        rw [drop_end s k (by omega)] at h1
        show _ = _; simpa [repl] using h1
      clear hin
      go_wp2_with fail
      go_ret
      exact ⟨ret_string (bytes_ext (by rw [H.out])), hok.1⟩
end Go.Proofs.Ythdchapieninbaa
