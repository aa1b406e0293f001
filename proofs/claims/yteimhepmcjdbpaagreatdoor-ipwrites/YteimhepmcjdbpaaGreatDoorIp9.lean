import Derived.Test.YteimhepmcjdbpaaGreatDoorIp8
import Derived.Test.YteimhepmcjdbpaaGreatDoorLex2
namespace Go.Proofs.YteimhepmcjdbpaaGreatDoor
open Go.RowKit
namespace Ip

/-- A text without its first byte, if that is one; without its last one. -/
def preB (c : UInt8) (l : List UInt8) : List UInt8 × Bool := match l with
  | [] => ([], false)
  | a :: t => if a = c then (t, true) else (a :: t, false)
def sufB (c : UInt8) (l : List UInt8) : List UInt8 × Bool := if l.getLast? = some c then (l.dropLast, true) else (l, false)

theorem beq_one (s : ByteArray) (x : UInt8) (c : UInt8) (h : s.data.toList = [x]) : (s.toList == [c]) = decide (x = c) := by
  rw [ByteArray.toList_eq, h]
  show ([x] == [c]) = _
  rw [Bool.eq_iff_iff]; simp

theorem pre_any (s : ByteArray) (c : UInt8) (w : World) (hs : s.size ≤ 1000) :
    Calls Tryz.prog 49 #[.string s, .string ⟨#[c]⟩] w fun e w' => e = .returned (.tuple #[.string ⟨(preB c s.data.toList).1.toArray⟩, .bool (preB c s.data.toList).2]) ∧ w' = w := by
  have hme : (ByteArray.mk s.data.toList.toArray) = s := by simp
  have hcs : (ByteArray.mk #[c]).size = 1 := rfl
  have hcl : (ByteArray.mk #[c]).toList = [c] := by rw [ByteArray.toList_eq]
  have HH : ∀ w, Calls Tryz.prog 85 #[.string s, .string ⟨#[c]⟩] w fun e w' => e = .returned (.bool (preB c s.data.toList).2) ∧ w' = w := by
    intro w
    by_cases h0 : 0 < s.size
    · have hd : s.data.toList = s[0] :: s.data.toList.drop 1 := by
        have := List.drop_eq_getElem_cons (l := s.data.toList) (i := 0) (by rw [len_size]; exact h0)
        rwa [List.drop_zero] at this
      have h1 : (s.extract 0 1).data.toList = [s[0]] := by rw [ext_list, hd]; rfl
      have hq := beq_one _ _ c h1
      have HP : Hid ((preB c s.data.toList).2 = decide (s[0] = c)) := by
        show _ = _; rw [hd]
        by_cases e : s[0] = c
        · simp [preB, e]
        · simp [preB, e]
      have h0' : (1 : Int) ≤ (s.size : Int) := by omega
      rw [HP.out]
      clear hd h1
      generalize (ByteArray.mk #[c]) = cc at *
      generalize decide (s[0] = c) = v at *
      go_enter Tryz.func85, Tryz.ntmps85
      go_wp2
      go_ret
      exact ⟨rfl, rfl⟩
    · have e : s.data.toList = [] := List.eq_nil_of_length_eq_zero (by rw [len_size]; omega)
      have HP : Hid ((preB c s.data.toList).2 = false) := by show _ = _; rw [e]; rfl
      rw [HP.out]
      have h0' : (s.size : Int) < 1 := by omega
      generalize (ByteArray.mk #[c]) = cc at *
      go_enter Tryz.func85, Tryz.ntmps85
      go_wp2
      go_ret
      exact ⟨rfl, rfl⟩
  have HI : ∀ w, Calls Tryz.prog 66 #[.string s, .string ⟨#[c]⟩] w fun e w' => e = .returned (.tuple #[.string ⟨(preB c s.data.toList).1.toArray⟩, .bool (preB c s.data.toList).2]) ∧ w' = w := by
    intro w
    have H1 := hid HH
    cases hp : (preB c s.data.toList).2
    · have HR : Hid ((ByteArray.mk (preB c s.data.toList).1.toArray) = s) := by
        show _ = _
        unfold preB at hp ⊢
        split
        · rename_i e; rw [← e]
        · rename_i a t e
          rw [e] at hp
          by_cases ha : a = c
          · simp [ha] at hp
          · rw [if_neg ha, ← e]
      rw [hp] at H1
      rw [HR.out]
      clear hp hme
      generalize (ByteArray.mk #[c]) = cc at *
      go_enter Tryz.func66, Tryz.ntmps66
      go_wp2_with fail
      refine (H1.out _).mono ?_
      rintro e w' ⟨rfl, rfl⟩
      go_wp2_with fail
      go_ret2
      exact ⟨rfl, rfl⟩
    · have HR : Hid ((ByteArray.mk (preB c s.data.toList).1.toArray) = s.extract 1 s.size ∧ 1 ≤ s.size) := by
        unfold preB at hp ⊢
        split
        · rename_i e; rw [e] at hp; cases hp
        · rename_i a t e
          rw [e] at hp
          by_cases ha : a = c
          · rw [if_pos ha]
            refine ⟨?_, by have h := len_size s; rw [e] at h; simp at h; omega⟩
            have h2 : (s.extract 1 s.size).data.toList = t := by rw [ext_end, e]; rfl
            rw [← h2]
          · simp [ha] at hp
      rw [hp] at H1
      rw [HR.out.1]
      have hz := HR.out.2
      have hz' : (1 : Int) ≤ (s.size : Int) := by omega
      clear hp hme HR
      generalize (ByteArray.mk #[c]) = cc at *
      go_enter Tryz.func66, Tryz.ntmps66
      go_wp2_with fail
      refine (H1.out _).mono ?_
      rintro e w' ⟨rfl, rfl⟩
      go_wp2_with fail
      go_ret2
      exact ⟨rfl, rfl⟩
  have H2 := hid HI
  clear HI HH hcs hcl
  generalize (ByteArray.mk #[c]) = cc at *
  generalize (ByteArray.mk (preB c s.data.toList).1.toArray) = r at *
  go_enter Tryz.func49, Tryz.ntmps49
  go_wp2_with fail
  refine (H2.out _).mono ?_
  rintro e w' ⟨rfl, rfl⟩
  go_wp2_with fail
  go_ret2
  exact ⟨rfl, rfl⟩

theorem suf_any (s : ByteArray) (c : UInt8) (w : World) (hs : s.size ≤ 1000) :
    Calls Tryz.prog 50 #[.string s, .string ⟨#[c]⟩] w fun e w' => e = .returned (.tuple #[.string ⟨(sufB c s.data.toList).1.toArray⟩, .bool (sufB c s.data.toList).2]) ∧ w' = w := by
  have hme : (ByteArray.mk s.data.toList.toArray) = s := by simp
  have hcs : (ByteArray.mk #[c]).size = 1 := rfl
  have hcl : (ByteArray.mk #[c]).toList = [c] := by rw [ByteArray.toList_eq]
  have HH : ∀ w, Calls Tryz.prog 86 #[.string s, .string ⟨#[c]⟩] w fun e w' => e = .returned (.bool (sufB c s.data.toList).2) ∧ w' = w := by
    intro w
    by_cases h0 : 0 < s.size
    · have hlast : s.data.toList.getLast? = some (s[s.size - 1]'(by omega)) := by
        rw [List.getLast?_eq_getElem?, len_size, List.getElem?_eq_getElem (by rw [len_size]; omega)]; rfl
      have h1 : (s.extract (s.size - 1) s.size).data.toList = [s[s.size - 1]'(by omega)] := by
        rw [ext_end, List.drop_eq_getElem_cons (by rw [len_size]; omega), List.drop_of_length_le (by rw [len_size]; omega)]; rfl
      have hq := beq_one _ _ c h1
      have HP : Hid ((sufB c s.data.toList).2 = decide (s[s.size - 1]'(by omega) = c)) := by
        show _ = _; unfold sufB; rw [hlast]
        by_cases e : s[s.size - 1]'(by omega) = c
        · rw [if_pos (by rw [e]), decide_eq_true e]
        · rw [if_neg (by simpa using e), decide_eq_false e]
      have h0' : (1 : Int) ≤ (s.size : Int) := by omega
      have h0'' : (((s.size : Int) - 1).toNat) = s.size - 1 := by omega
      rw [HP.out]
      clear h1 hlast
      generalize (ByteArray.mk #[c]) = cc at *
      generalize decide (s[s.size - 1]'(by omega) = c) = v at *
      go_enter Tryz.func86, Tryz.ntmps86
      go_wp2
      go_ret
      exact ⟨rfl, rfl⟩
    · have e : s.data.toList = [] := List.eq_nil_of_length_eq_zero (by rw [len_size]; omega)
      have HP : Hid ((sufB c s.data.toList).2 = false) := by show _ = _; rw [e]; rfl
      rw [HP.out]
      have h0' : (s.size : Int) < 1 := by omega
      generalize (ByteArray.mk #[c]) = cc at *
      go_enter Tryz.func86, Tryz.ntmps86
      go_wp2
      go_ret
      exact ⟨rfl, rfl⟩
  have HI : ∀ w, Calls Tryz.prog 67 #[.string s, .string ⟨#[c]⟩] w fun e w' => e = .returned (.tuple #[.string ⟨(sufB c s.data.toList).1.toArray⟩, .bool (sufB c s.data.toList).2]) ∧ w' = w := by
    intro w
    have H1 := hid HH
    by_cases hp : s.data.toList.getLast? = some c
    · have h0 : 0 < s.size := by
        rcases Nat.eq_zero_or_pos s.size with h | h
        · have e : s.data.toList = [] := List.eq_nil_of_length_eq_zero (by rw [len_size]; omega)
          rw [e] at hp; cases hp
        · exact h
      have e2 : (sufB c s.data.toList) = (s.data.toList.dropLast, true) := if_pos hp
      have HR : Hid ((ByteArray.mk s.data.toList.dropLast.toArray) = s.extract 0 (s.size - 1)) := by
        show _ = _
        have h2 : (s.extract 0 (s.size - 1)).data.toList = s.data.toList.dropLast := by
          rw [ext_list, List.drop_zero, List.dropLast_eq_take, len_size]; rfl
        rw [← h2]
      rw [e2] at H1 ⊢
      simp only at H1 ⊢
      rw [HR.out]
      have h0' : (1 : Int) ≤ (s.size : Int) := by omega
      have h0'' : (((s.size : Int) - 1).toNat) = s.size - 1 := by omega
      clear hp hme HR e2
      generalize (ByteArray.mk #[c]) = cc at *
      go_enter Tryz.func67, Tryz.ntmps67
      go_wp2_with fail
      refine (H1.out _).mono ?_
      rintro e w' ⟨rfl, rfl⟩
      go_wp2_with fail
      go_ret2
      exact ⟨rfl, rfl⟩
    · have e2 : (sufB c s.data.toList) = (s.data.toList, false) := if_neg hp
      rw [e2] at H1 ⊢
      simp only at H1 ⊢
      rw [hme]
      clear hp hme e2
      generalize (ByteArray.mk #[c]) = cc at *
      go_enter Tryz.func67, Tryz.ntmps67
      go_wp2_with fail
      refine (H1.out _).mono ?_
      rintro e w' ⟨rfl, rfl⟩
      go_wp2_with fail
      go_ret2
      exact ⟨rfl, rfl⟩
  have H2 := hid HI
  clear HI HH hcs hcl
  generalize (ByteArray.mk #[c]) = cc at *
  generalize (ByteArray.mk (sufB c s.data.toList).1.toArray) = r at *
  go_enter Tryz.func50, Tryz.ntmps50
  go_wp2_with fail
  refine (H2.out _).mono ?_
  rintro e w' ⟨rfl, rfl⟩
  go_wp2_with fail
  go_ret2
  exact ⟨rfl, rfl⟩
end Ip
end Go.Proofs.YteimhepmcjdbpaaGreatDoor
