import Derived.Test.YteimhepmcjdbpaaGreatDoorLex1
import Derived.Test.YteimhepmcjdbpaaGreatDoorUtf3
import Derived.Deep.QuietTactic
import Derived.BigQuiet
namespace Go.Proofs.YteimhepmcjdbpaaGreatDoor
open Go.RowKit
namespace Le

/-- How many bytes the escape or the scalar value has with which a text begins; 0: that may not stand at a place. -/
def stN (p : Int) (iri : Bool) (l : List UInt8) : Nat := if 0 ≤ atL l then 3 else if okL l = true ∧ maB p iri (decR l) = true then fit l else 0

theorem atL_len (l : List UInt8) (h : 0 ≤ atL l) : 3 ≤ l.length := by
  match l, h with
  | [], h => exact absurd h (by decide)
  | [_], h => exact absurd h (by simp [atL])
  | [_, _], h => exact absurd h (by simp [atL])
  | _ :: _ :: _ :: _, _ => simp

theorem okL_ne {l : List UInt8} (h : okL l = true) : l ≠ [] := by rintro rfl; exact absurd h (by decide)

theorem stN_le (p : Int) (iri : Bool) (l : List UInt8) : stN p iri l ≤ l.length := by
  unfold stN
  split
  · exact atL_len l ‹_›
  · split
    · rename_i h; exact fit_le l (okL_ne h.1)
    · exact Nat.zero_le _

theorem stN_nil (p : Int) (iri : Bool) : stN p iri [] = 0 := by have := stN_le p iri []; simpa using this

theorem at0_yes (s : ByteArray) (w : World) (hs : s.size ≤ maxLen) (h : 0 ≤ atL s.data.toList) :
    Calls Tryz.prog 87 #[.string s, .int .i64 0] w fun e w' => e = .returned (.tuple #[.int .u8 (atL s.data.toList), .bool true]) ∧ w' = w := by
  have := at_yes s 0 w hs (by rwa [List.drop_zero])
  rwa [List.drop_zero] at this
theorem at0_no (s : ByteArray) (w : World) (hs : s.size ≤ maxLen) (h : atL s.data.toList < 0) :
    Calls Tryz.prog 87 #[.string s, .int .i64 0] w fun e w' => e = .returned (.tuple #[.int .u8 0, .bool false]) ∧ w' = w := by
  exact at_no s 0 w hs (Nat.zero_le _) (by rwa [List.drop_zero])

theorem first_any (p : Int) (iri : Bool) (s : ByteArray) (w : World) (hs : s.size ≤ maxLen) :
    Calls Tryz.prog 68 #[.int .i64 p, .bool iri, .string s] w fun e w' => e = .returned (.int .i64 (stN p iri s.data.toList)) ∧ Below w.heap.size w w' := by
  by_cases h : 0 ≤ atL s.data.toList
  · have H : Hid (stN p iri s.data.toList = 3) := by show _ = _; unfold stN; rw [if_pos h]
    have HA := hid (fun w => at0_yes s w hs h)
    clear h hs
    go_enter Tryz.func68, Tryz.ntmps68
    go_wp2_with (go_at_call 87; refine (HA.out _).mono ?_; rintro e w' ⟨rfl, rfl⟩)
    go_ret
    exact ⟨ret_int (by rw [H.out]; rfl), Below.refl _ _⟩
  · have HA := hid (fun w => at0_no s w hs (by omega))
    have hok := Ok.start w
    cases ho : okL s.data.toList
    · have H : Hid (stN p iri s.data.toList = 0) := by show _ = _; unfold stN; rw [if_neg h, if_neg (by rw [ho]; simp)]
      clear h hs
      go_enter Tryz.func68, Tryz.ntmps68
      go_wp2_with (first | (go_at_call 87; refine (HA.out _).mono ?_; rintro e w' ⟨rfl, rfl⟩) | (go_at_call 88; refine (dec_any _ _).mono ?_; rintro e w' ⟨rfl, hb'⟩; replace hok := hok.step hb'; clear hb'))
      go_ret
      exact ⟨ret_int (by rw [H.out]; rfl), hok.1⟩
    · have hn : decN s.data.toList = fit s.data.toList := by unfold decN; rw [if_neg (okL_ne ho)]
      cases hm : maB p iri (decR s.data.toList)
      · have H : Hid (stN p iri s.data.toList = 0) := by show _ = _; unfold stN; rw [if_neg h, if_neg (by rw [hm]; simp)]
        clear h hs
        go_enter Tryz.func68, Tryz.ntmps68
        go_wp2_with (first | (go_at_call 87; refine (HA.out _).mono ?_; rintro e w' ⟨rfl, rfl⟩) | (go_at_call 88; refine (dec_any _ _).mono ?_; rintro e w' ⟨rfl, hb'⟩; replace hok := hok.step hb'; clear hb') | (go_at_call 89; refine (ma_any _ _ _ _).mono ?_; rintro e w' ⟨rfl, rfl⟩))
        go_ret
        exact ⟨ret_int (by rw [H.out]; rfl), hok.1⟩
      · have H : Hid (stN p iri s.data.toList = decN s.data.toList) := by show _ = _; unfold stN; rw [if_neg h, if_pos ⟨ho, hm⟩, hn]
        clear h hs hn
        go_enter Tryz.func68, Tryz.ntmps68
        go_wp2_with (first | (go_at_call 87; refine (HA.out _).mono ?_; rintro e w' ⟨rfl, rfl⟩) | (go_at_call 88; refine (dec_any _ _).mono ?_; rintro e w' ⟨rfl, hb'⟩; replace hok := hok.step hb'; clear hb') | (go_at_call 89; refine (ma_any _ _ _ _).mono ?_; rintro e w' ⟨rfl, rfl⟩))
        go_ret
        exact ⟨ret_int (by rw [H.out]), hok.1⟩

/-- How far what may stand at a place goes, by fuel. -/
def spF (p : Int) (iri : Bool) (l : List UInt8) : Nat → Nat → Nat
  | 0, k => k
  | f + 1, k => if stN p iri (l.drop k) = 0 then k else spF p iri l f (k + stN p iri (l.drop k))
def spL (p : Int) (iri : Bool) (l : List UInt8) : Nat := if plcB p = true then spF p iri l l.length 0 else 0

theorem spF_end (p : Int) (iri : Bool) (l : List UInt8) (f k : Nat) (h : stN p iri (l.drop k) = 0) : spF p iri l f k = k := by
  cases f with
  | zero => rfl
  | succ f => unfold spF; rw [if_pos h]
theorem spF_le (p : Int) (iri : Bool) (l : List UInt8) : ∀ f k, k ≤ l.length → spF p iri l f k ≤ l.length := by
  intro f
  induction f with
  | zero => intro k hk; exact hk
  | succ f ih =>
    intro k hk
    unfold spF
    split
    · exact hk
    · have := stN_le p iri (l.drop k)
      rw [List.length_drop] at this
      exact ih _ (by omega)
theorem spF_ge (p : Int) (iri : Bool) (l : List UInt8) : ∀ f k, k ≤ spF p iri l f k := by
  intro f
  induction f with
  | zero => intro k; exact Nat.le_refl _
  | succ f ih =>
    intro k
    unfold spF
    split
    · exact Nat.le_refl _
    · exact Nat.le_trans (Nat.le_add_right _ _) (ih _)
theorem maB_mono (p r : Int) (h : maB p false r = true) : maB p true r = true := by
  unfold maB at h ⊢
  split
  · rename_i h0; rw [if_pos h0] at h; exact h
  · rename_i h0
    rw [if_neg h0] at h
    split
    · rename_i h1; rw [if_pos h1] at h; exact h
    · rename_i h1; rw [if_neg h1] at h; simp at h
theorem stN_mono (p : Int) (l : List UInt8) (h : stN p false l ≠ 0) : stN p true l = stN p false l := by
  unfold stN at h ⊢
  split
  · rfl
  · rename_i h0
    rw [if_neg h0] at h
    by_cases hc : okL l = true ∧ maB p false (decR l) = true
    · rw [if_pos hc, if_pos ⟨hc.1, maB_mono _ _ hc.2⟩]
    · rw [if_neg hc] at h; exact absurd rfl h
theorem spF_mono (p : Int) (l : List UInt8) : ∀ f k, spF p false l f k ≤ spF p true l f k := by
  intro f
  induction f with
  | zero => intro k; exact Nat.le_refl _
  | succ f ih =>
    intro k
    by_cases h : stN p false (l.drop k) = 0
    · rw [spF_end p false l (f + 1) k h]; exact spF_ge _ _ _ _ _
    · have e := stN_mono p _ h
      unfold spF
      rw [if_neg h, if_neg (by rw [e]; exact h), e]
      exact ih _
theorem spL_mono (p : Int) (l : List UInt8) : spL p false l ≤ spL p true l := by
  unfold spL; split
  · exact spF_mono _ _ _ _
  · exact Nat.le_refl _
theorem spL_le (p : Int) (iri : Bool) (l : List UInt8) : spL p iri l ≤ l.length := by
  unfold spL; split
  · exact spF_le _ _ _ _ _ (Nat.zero_le _)
  · exact Nat.zero_le _

set_option maxHeartbeats 1000000 in
theorem spa_any (p : Int) (iri : Bool) (s : ByteArray) (w : World) (hs : s.size ≤ maxLen) :
    Calls Tryz.prog 51 #[.int .i64 p, .bool iri, .string s] w fun e w' => e = .returned (.int .i64 (spL p iri s.data.toList)) ∧ Below w.heap.size w w' := by
  have HS : Hid (s.size ≤ maxLen) := hs
  unfold maxLen at hs
  cases k1 : plcB p
  · have H : Hid (spL p iri s.data.toList = 0) := by show _ = _; unfold spL; rw [k1]; rfl
    go_enter Tryz.func51, Tryz.ntmps51
    go_wp2_with (go_at_call 63; refine (plc_any _ _).mono ?_; rintro e w' ⟨rfl, rfl⟩)
    go_ret
    exact ⟨ret_int (by rw [H.out]; rfl), Below.refl _ _⟩
  have HK : Hid (spL p iri s.data.toList = spF p iri s.data.toList s.size 0) := by show _ = _; unfold spL; rw [if_pos k1, len_size]
  go_enter Tryz.func51, Tryz.ntmps51
  go_wp2_with (go_at_call 63; refine (plc_any _ _).mono ?_; rintro e w ⟨rfl, rfl⟩)
  go_loopw [7] (fun i wr => ∃ k fuel : Nat, i = .int .i64 k ∧ k ≤ s.size ∧ Ok w.heap.size w wr ∧ s.size ≤ k + fuel ∧ Hid (spF p iri s.data.toList fuel k = spL p iri s.data.toList)) (fun i _ => s.size - (intOf i).toNat)
  case atStart => exact ⟨0, s.size, rfl, by omega, Ok.start w, by omega, HK.out.symm⟩
  case round =>
    obtain ⟨k, fuel, rfl, hks, hok, hfu, hF⟩ := hrel
    by_cases hp : k < s.size
    · obtain ⟨f, rfl⟩ : ∃ f, fuel = f + 1 := ⟨fuel - 1, by omega⟩
      have hF2 := hF.out
      have hd := fun w => first_any p iri (s.extract k s.size) w (by rw [ext_size]; have := HS.out; omega)
      rw [ext_end] at hd
      have hle := stN_le p iri (s.data.toList.drop k)
      rw [List.length_drop, len_size] at hle
      by_cases h0 : stN p iri (s.data.toList.drop k) = 0
      · rw [spF_end _ _ _ _ _ h0] at hF2
        rw [h0] at hd
        have HD := hid hd
        have H2 := hid hF2
        clear hd hF2 h0 hF hle
        go_wp2_with (first | (go_at_call 68; refine (HD.out _).mono ?_; rintro e w' ⟨rfl, hb'⟩; replace hok := hok.step hb'; clear hb'))
        go_ret
        exact ⟨ret_int (by rw [H2.out]), hok.1⟩
      · simp only [spF] at hF2
        rw [if_neg h0] at hF2
        have HD := hid hd
        have H2 := hid hF2
        clear hd hF2 hF
        generalize stN p iri (s.data.toList.drop k) = m at *
        have h0' : ((m : Int) == 0) = false := by rw [beq_eq_false_iff_ne]; omega
        go_wp2_with (first | (go_at_call 68; refine (HD.out _).mono ?_; rintro e w' ⟨rfl, hb'⟩; replace hok := hok.step hb'; clear hb'))
        go_roundw
        case rel => exact ⟨k + m, f, by go_num, by omega, hok, by omega, H2⟩
        case measure => simp [intOf]; omega
    · have H2 : Hid ((k : Int) = spL p iri s.data.toList) := by
        show _ = _; rw [← hF.out, spF_end]
        rw [List.drop_of_length_le (by rw [len_size]; omega)]; exact stN_nil _ _
      clear hF
      go_wp2_with fail
      go_ret
      exact ⟨ret_int H2.out, hok.1⟩

theorem all_any (p : Int) (iri : Bool) (s : ByteArray) (w : World) (hs : s.size ≤ maxLen) :
    Calls Tryz.prog 31 #[.int .i64 p, .bool iri, .string s] w fun e w' => e = .returned (.bool ((spL p iri s.data.toList : Int) == (s.size : Int))) ∧ Below w.heap.size w w' := by
  have HD := hid (fun w => spa_any p iri s w hs)
  have hok := Ok.start w
  unfold maxLen at hs
  generalize spL p iri s.data.toList = n at *
  go_enter Tryz.func31, Tryz.ntmps31
  go_wp2_with (first | (go_at_call 51; refine (HD.out _).mono ?_; rintro e w' ⟨rfl, hb'⟩; replace hok := hok.step hb'; clear hb'))
  go_ret
  exact ⟨rfl, hok.1⟩

end Le
end Go.Proofs.YteimhepmcjdbpaaGreatDoor
