import Derived.Test.YteimhepmcjdbpaaGreatDoorBase
import Derived.Lib.Bytealg
namespace Go.Proofs.YteimhepmcjdbpaaGreatDoor
open Go.RowKit


def inB (c : Int) (l : List UInt8) : Bool := l.any fun x => (x.toNat : Int) == c


theorem inB_snoc (c : Int) (l : List UInt8) (x : UInt8) : inB c (l ++ [x]) = (inB c l || ((x.toNat : Int) == c)) := by
  simp [inB]

theorem inB_true (c : Int) (s : ByteArray) (k : Nat) (h : k < s.size) (hx : ((s[k].toNat : Int) == c) = true) : inB c s.data.toList = true := by
  unfold inB
  rw [List.any_eq_true]
  exact ⟨s[k], by exact List.getElem_mem (l := s.data.toList) (by simpa using h), hx⟩

set_option maxHeartbeats 400000 in
theorem in_any (c : Int) (s : ByteArray) (w : World) (hs : s.size ≤ maxLen) :
    Calls Tryz.prog 24 #[.int .u8 c, .string s] w fun e w' => e = .returned (.bool (inB c s.data.toList)) ∧ w' = w := by
  unfold maxLen at hs
  go_enter Tryz.func24, Tryz.ntmps24
  go_wp2
  go_loop [5] (fun i => ∃ k : Nat, k ≤ s.size ∧ i = .int .i64 k ∧ Hid (inB c (s.data.toList.take k) = false)) (fun i => s.size - (intOf i).toNat)
  case atStart => exact ⟨0, Nat.zero_le _, rfl, rfl⟩
  case round =>
    obtain ⟨k, hk, rfl, hin⟩ := hrel
    by_cases hlt : k < s.size
    · by_cases hx : ((s[k].toNat : Int) == c) = true
      · have H : Hid (inB c s.data.toList = true) := inB_true c s k hlt hx
        go_wp2
        go_ret
        exact ⟨ret_bool (by rw [H.out]), rfl⟩
      · have hx' : ((s[k].toNat : Int) == c) = false := by simpa using hx
        have H : Hid (inB c (s.data.toList.take (k + 1)) = false) := by
          show _ = _
          rw [take_snoc s k hlt, inB_snoc, hin.out, hx']; rfl
        go_wp2
        go_round
        case rel => exact ⟨k + 1, by omega, by go_num, H⟩
        case measure => simp [intOf]; omega
    · go_wp2
      go_ret
      have : s.data.toList.take k = s.data.toList := List.take_of_length_le (by simp; omega)
      exact ⟨ret_bool (by rw [← this, hin.out]), rfl⟩


def upB (b : Int) : Bool := decide (65 ≤ b ∧ b ≤ 90)
def lowB (b : Int) : Bool := decide (97 ≤ b ∧ b ≤ 122)

theorem up_any (b : Int) (w : World) :
    Calls Tryz.prog 61 #[.int .u8 b] w fun e w' => e = .returned (.bool (upB b)) ∧ w' = w := by
  by_cases h1 : 65 ≤ b
  · by_cases h2 : b ≤ 90
    · go_enter Tryz.func61, Tryz.ntmps61
      go_wp2
      go_ret
      exact ⟨ret_bool (dt ⟨h1, h2⟩), rfl⟩
    · go_enter Tryz.func61, Tryz.ntmps61
      go_wp2
      go_ret
      exact ⟨ret_bool (df (by omega)), rfl⟩
  · go_enter Tryz.func61, Tryz.ntmps61
    go_wp2
    go_ret
    exact ⟨ret_bool (df (by omega)), rfl⟩

theorem low_any (b : Int) (w : World) :
    Calls Tryz.prog 84 #[.int .u8 b] w fun e w' => e = .returned (.bool (lowB b)) ∧ w' = w := by
  by_cases h1 : 97 ≤ b
  · by_cases h2 : b ≤ 122
    · go_enter Tryz.func84, Tryz.ntmps84
      go_wp2
      go_ret
      exact ⟨ret_bool (dt ⟨h1, h2⟩), rfl⟩
    · go_enter Tryz.func84, Tryz.ntmps84
      go_wp2
      go_ret
      exact ⟨ret_bool (df (by omega)), rfl⟩
  · go_enter Tryz.func84, Tryz.ntmps84
    go_wp2
    go_ret
    exact ⟨ret_bool (df (by omega)), rfl⟩

/-- Where a byte stands first in a text. -/
def ixI (c : Int) (l : List UInt8) : Int := Lib.indexByte l c.toNat.toUInt8

theorem indexByte_nn (l : List UInt8) (c : UInt8) : 0 ≤ Lib.indexByte l c ↔ c ∈ l := by
  induction l with
  | nil => simp [Lib.indexByte]
  | cons b l ih =>
    have := Lib.indexByte_ge l c
    unfold Lib.indexByte
    by_cases hb : b == c
    · simp at hb; simp [hb]
    · have hb' : ¬ c = b := fun e => hb (by simp [e])
      rw [if_neg hb]
      by_cases h1 : Lib.indexByte l c = -1
      · simp [h1, hb']; rw [← ih, h1]; omega
      · have h2 : (Lib.indexByte l c == -1) = false := by simpa using h1
        rw [h2]; simp only [Bool.false_eq_true, if_false, List.mem_cons, hb', false_or]
        rw [← ih]; omega

theorem ixI_in (c : Int) (l : List UInt8) (h0 : 0 ≤ c) (h1 : c ≤ 255) : 0 ≤ ixI c l ↔ inB c l = true := by
  unfold ixI
  rw [indexByte_nn]
  unfold inB
  rw [List.any_eq_true]
  obtain ⟨n, rfl⟩ := Int.eq_ofNat_of_zero_le h0
  have e : ∀ x : UInt8, ((x.toNat : Int) == (n : Int)) = true ↔ x = n.toUInt8 := by
    intro x
    rw [beq_iff_eq]
    constructor
    · intro h
      have hx : x.toNat = n := by omega
      rw [← hx]; exact (UInt8.ofNat_toNat).symm
    · intro h
      subst h
      have : n.toUInt8.toNat = n % 256 := UInt8.toNat_ofNat'
      omega
  constructor
  · intro h; exact ⟨_, h, (e _).2 rfl⟩
  · rintro ⟨x, hx, he⟩
    rw [(e x).1 he] at hx; exact hx

theorem idx_run (s : ByteArray) (c : Int) (w : World) : (callFunc 100 #[.string s, .int .u8 c]).run Tryz.prog w = .ok (.value (.int .i64 (ixI c s.data.toList))) w := by
  rw [run_callFunc_indexByte Tryz.func100 (by kernel_rfl) (by kernel_rfl) (by kernel_rfl) (by kernel_rfl), Lib.run_indexByteString]; rfl

theorem idx_any (s : ByteArray) (c : Int) (w : World) :
    Calls Tryz.prog 64 #[.string s, .int .u8 c] w fun e w' => e = .returned (.int .i64 (ixI c s.data.toList)) ∧ w' = w := by
  have h := idx_run
  go_enter Tryz.func64, Tryz.ntmps64
  go_wp2
  go_ret
  exact ⟨rfl, rfl⟩

def clsI (b : Int) : Int :=
  if 48 ≤ b ∧ b ≤ 57 then 34 else if (65 ≤ b ∧ b ≤ 70) ∨ (97 ≤ b ∧ b ≤ 102) then 33 else if (65 ≤ b ∧ b ≤ 90) ∨ (97 ≤ b ∧ b ≤ 122) then 1
  else if 0 ≤ ixI b [45, 46, 95, 126] then 4 else if 0 ≤ ixI b [33, 36, 38, 39, 40, 41, 42, 43, 44, 59, 61] then 8 else if 0 ≤ ixI b [58, 47, 63, 35, 91, 93, 64] then 16 else 0

set_option maxHeartbeats 1000000 in
theorem cls_any (b : Int) (w : World) :
    Calls Tryz.prog 62 #[.int .u8 b] w fun e w' => e = .returned (.int .i64 (clsI b)) ∧ w' = w := by
  have key : ∀ n : Int, clsI b = n → Hid (clsI b = n) := fun _ h => h
  by_cases h1 : 48 ≤ b ∧ b ≤ 57
  · have H := key 34 (by unfold clsI; rw [if_pos h1])
    obtain ⟨h1, h2⟩ := h1
    clear key
    go_enter Tryz.func62, Tryz.ntmps62
    go_wp2
    go_ret
    exact ⟨ret_int H.out.symm, rfl⟩
  by_cases h2 : (65 ≤ b ∧ b ≤ 70) ∨ (97 ≤ b ∧ b ≤ 102)
  · have H := key 33 (by unfold clsI; rw [if_neg h1, if_pos h2])
    clear key
    have h3 : ¬ b ≤ 57 := by omega
    have h4 : 48 ≤ b := by omega
    rcases h2 with ⟨h5, h6⟩ | ⟨h5, h6⟩
    · clear h1
      go_enter Tryz.func62, Tryz.ntmps62
      go_wp2
      go_ret
      exact ⟨ret_int H.out.symm, rfl⟩
    · clear h1
      have h7 : 65 ≤ b := by omega
      have h8 : ¬ b ≤ 70 := by omega
      go_enter Tryz.func62, Tryz.ntmps62
      go_wp2
      go_ret
      exact ⟨ret_int H.out.symm, rfl⟩
  have n1 : 48 ≤ b → ¬ b ≤ 57 := fun h h' => h1 ⟨h, h'⟩
  have n2 : 65 ≤ b → ¬ b ≤ 70 := fun h h' => h2 (.inl ⟨h, h'⟩)
  have n3 : 97 ≤ b → ¬ b ≤ 102 := fun h h' => h2 (.inr ⟨h, h'⟩)
  by_cases h3 : (65 ≤ b ∧ b ≤ 90) ∨ (97 ≤ b ∧ b ≤ 122)
  · have H := key 1 (by unfold clsI; rw [if_neg h1, if_neg h2, if_pos h3])
    clear key
    rcases h3 with ⟨h5, h6⟩ | ⟨h5, h6⟩
    · have a1 : 48 ≤ b := by omega
      have a2 : ¬ b ≤ 57 := by omega
      have a3 : ¬ b ≤ 70 := by omega
      have a4 : ¬ 97 ≤ b := by omega
      clear h1 h2 n1 n2 n3
      go_enter Tryz.func62, Tryz.ntmps62
      go_wp2
      go_ret
      exact ⟨ret_int H.out.symm, rfl⟩
    · have a1 : 48 ≤ b := by omega
      have a2 : ¬ b ≤ 57 := by omega
      have a3 : 65 ≤ b := by omega
      have a4 : ¬ b ≤ 70 := by omega
      have a5 : ¬ b ≤ 102 := by omega
      have a6 : ¬ b ≤ 90 := by omega
      clear h1 h2 n1 n2 n3
      go_enter Tryz.func62, Tryz.ntmps62
      go_wp2
      go_ret
      exact ⟨ret_int H.out.symm, rfl⟩
  have e1 : clsI b = if 0 ≤ ixI b [45, 46, 95, 126] then 4 else if 0 ≤ ixI b [33, 36, 38, 39, 40, 41, 42, 43, 44, 59, 61] then 8 else if 0 ≤ ixI b [58, 47, 63, 35, 91, 93, 64] then 16 else 0 := by
    unfold clsI; rw [if_neg h1, if_neg h2, if_neg h3]
  have u1 : upB b = false := by unfold upB; rw [decide_eq_false_iff_not]; omega
  have u2 : lowB b = false := by unfold lowB; rw [decide_eq_false_iff_not]; omega
  have p1 : Hid (¬ (48 ≤ b ∧ b ≤ 57) ∧ ¬ (65 ≤ b ∧ b ≤ 70) ∧ ¬ (97 ≤ b ∧ b ≤ 102)) := ⟨h1, fun h => h2 (.inl h), fun h => h2 (.inr h)⟩
  clear h1 h2 h3 n1 n2 n3
  have E1 : Hid (clsI b = _) := e1
  clear e1 key
  have p2 : b < 48 ∨ (57 < b ∧ b < 65) ∨ (90 < b ∧ b < 97) ∨ 122 < b := by
    have := p1.out
    have q1 : ¬ (65 ≤ b ∧ b ≤ 90) := by simpa [upB] using u1
    have q2 : ¬ (97 ≤ b ∧ b ≤ 122) := by simpa [lowB] using u2
    omega
  clear p1
  rcases p2 with p | ⟨p, q⟩ | ⟨p, q⟩ | p
  all_goals
    go_enter Tryz.func62, Tryz.ntmps62
    go_wp2_with (first | (go_at_call 61; refine (up_any _ _).mono ?_; rintro e w' ⟨rfl, rfl⟩) | (go_at_call 84; refine (low_any _ _).mono ?_; rintro e w' ⟨rfl, rfl⟩) | (go_at_call 64; refine (idx_any _ _ _).mono ?_; rintro e w' ⟨rfl, rfl⟩))
    all_goals
      go_ret
      exact ⟨ret_int (by rw [E1.out]; repeat (first | rw [if_pos (by omega)] | rw [if_neg (by omega)])), rfl⟩
end Go.Proofs.YteimhepmcjdbpaaGreatDoor
