import Derived.Test.YteimhepmcjdbpaaGreatDoorOct1
namespace Go.Proofs.YteimhepmcjdbpaaGreatDoor
open Go.RowKit

/-- The letters, digits and signs, as the reference lists them, and what they come to. -/
def combo (b : Int) : List Bool :=
  [inB b [65, 66, 67, 68, 69, 70, 71, 72, 73, 74, 75, 76, 77, 78, 79, 80, 81, 82, 83, 84, 85, 86, 87, 88, 89, 90, 97, 98, 99, 100, 101, 102, 103, 104, 105, 106, 107, 108, 109, 110, 111, 112, 113, 114, 115, 116, 117, 118, 119, 120, 121, 122],
   inB b [48, 49, 50, 51, 52, 53, 54, 55, 56, 57], inB b [45, 46, 95, 126], inB b [33, 36, 38, 39, 40, 41, 42, 43, 44, 59, 61], inB b [58, 47, 63, 35, 91, 93, 64],
   inB b [48, 49, 50, 51, 52, 53, 54, 55, 56, 57, 65, 66, 67, 68, 69, 70, 97, 98, 99, 100, 101, 102]]

def combos : List (List Bool × Int) :=
  [([true, false, false, false, false, true], 33), ([true, false, false, false, false, false], 1), ([false, true, false, false, false, true], 34),
   ([false, false, true, false, false, false], 4), ([false, false, false, true, false, false], 8), ([false, false, false, false, true, false], 16), ([false, false, false, false, false, false], 0)]

theorem combo_all : ((List.range 256).all fun n => combos.contains (combo (n : Int), clsI (n : Int))) = true := by decide +kernel

theorem combo_in (b : Int) (h0 : 0 ≤ b) (h1 : b ≤ 255) : (combo b, clsI b) ∈ combos := by
  obtain ⟨n, rfl⟩ := Int.eq_ofNat_of_zero_le h0
  have := List.all_eq_true.1 combo_all n (by simp; omega)
  simpa using this

set_option maxHeartbeats 1000000 in
theorem rcls_any (b : Int) (w : World) (h0 : 0 ≤ b) (h1 : b ≤ 255) :
    Calls Tryz.prog 29 #[.int .u8 b] w fun e w' => e = .returned (.int .i64 (clsI b)) ∧ w' = w := by
  have hc := combo_in b h0 h1
  simp only [combo, combos, List.mem_cons, Prod.mk.injEq, List.cons.injEq, and_true, List.not_mem_nil, or_false] at hc
  rcases hc with ⟨⟨c1, c2, c3, c4, c5, c6⟩, c7⟩ | ⟨⟨c1, c2, c3, c4, c5, c6⟩, c7⟩ | ⟨⟨c1, c2, c3, c4, c5, c6⟩, c7⟩ | ⟨⟨c1, c2, c3, c4, c5, c6⟩, c7⟩ | ⟨⟨c1, c2, c3, c4, c5, c6⟩, c7⟩ | ⟨⟨c1, c2, c3, c4, c5, c6⟩, c7⟩ | ⟨⟨c1, c2, c3, c4, c5, c6⟩, c7⟩
  all_goals
    have H : Hid (clsI b = _) := c7
    clear c7
    go_enter Tryz.func29, Tryz.ntmps29
    go_wp2_with (go_at_call 24; refine (in_any _ _ _ (by decide)).mono ?_; rintro e w' ⟨rfl, rfl⟩)
    go_ret
    exact ⟨ret_int H.out.symm, rfl⟩

/-- Is a byte of one of some classes? -/
def isB (b c : Int) : Bool := bits BinOp.and IntKind.i64 (clsI b) c != 0

theorem is_any (b c : Int) (w : World) :
    Calls Tryz.prog 47 #[.int .u8 b, .int .i64 c] w fun e w' => e = .returned (.bool (isB b c)) ∧ w' = w := by
  go_enter Tryz.func47, Tryz.ntmps47
  go_wp2_with (go_at_call 62; refine (cls_any _ _).mono ?_; rintro e w' ⟨rfl, rfl⟩)
  go_ret
  exact ⟨rfl, rfl⟩

def spanN (c : Int) (l : List UInt8) : Nat := (l.takeWhile fun x => isB x.toNat c).length

theorem takeWhile_len {α : Type} (p : α → Bool) : ∀ (l : List α) (k : Nat), (∀ x ∈ l.take k, p x = true) → k ≤ l.length → (∀ h : k < l.length, p l[k] = false) → (l.takeWhile p).length = k
  | [], 0, _, _, _ => rfl
  | a :: l, 0, _, _, h => by
    have := h (by simp)
    simp at this
    simp [this]
  | a :: l, k + 1, h1, h2, h3 => by
    have ha : p a = true := h1 a (by simp)
    rw [List.takeWhile_cons, if_pos ha, List.length_cons, takeWhile_len p l k (fun x hx => h1 x (by simp [hx])) (by simpa using h2) (fun h => by have h4 := h3 (by simpa using h); rwa [List.getElem_cons_succ] at h4)]

set_option maxHeartbeats 400000 in
theorem span_any (s : ByteArray) (c : Int) (w : World) (hs : s.size ≤ maxLen) :
    Calls Tryz.prog 26 #[.string s, .int .i64 c] w fun e w' => e = .returned (.int .i64 (spanN c s.data.toList)) ∧ w' = w := by
  unfold maxLen at hs
  go_enter Tryz.func26, Tryz.ntmps26
  go_wp2
  go_loop [5] (fun i => ∃ k : Nat, k ≤ s.size ∧ i = .int .i64 k ∧ Hid (∀ x ∈ s.data.toList.take k, isB x.toNat c = true)) (fun i => s.size - (intOf i).toNat)
  case atStart => exact ⟨0, Nat.zero_le _, rfl, (by intro x hx; simp at hx)⟩
  case round =>
    obtain ⟨k, hk, rfl, hin⟩ := hrel
    by_cases hlt : k < s.size
    · by_cases hx : isB (s[k].toNat : Int) c = true
      · have H : Hid (∀ x ∈ s.data.toList.take (k + 1), isB x.toNat c = true) := by
          intro x h; rw [take_snoc s k hlt, List.mem_append] at h
          rcases h with h | h
          · exact hin.out x h
          · simp at h; subst h; exact hx
        go_wp2_with (go_at_call 47; refine (is_any _ _ _).mono ?_; rintro e w' ⟨rfl, rfl⟩)
        go_round
        case rel => exact ⟨k + 1, by omega, by go_num, H⟩
        case measure => simp [intOf]; omega
      · have hx' : isB (s[k].toNat : Int) c = false := by simpa using hx
        have H : Hid (spanN c s.data.toList = k) := takeWhile_len _ _ k hin.out (by simp; omega) (fun _ => hx')
        go_wp2_with (go_at_call 47; refine (is_any _ _ _).mono ?_; rintro e w' ⟨rfl, rfl⟩)
        go_ret
        exact ⟨ret_int (by rw [H.out]), rfl⟩
    · have H : Hid (spanN c s.data.toList = k) := takeWhile_len _ _ k hin.out (by simp; omega) (fun h => by simp at h; omega)
      go_wp2_with (go_at_call 47; refine (is_any _ _ _).mono ?_; rintro e w' ⟨rfl, rfl⟩)
      go_ret
      exact ⟨ret_int (by rw [H.out]), rfl⟩


/-- The value of a hexadecimal digit; -1: it is none. -/
def valR (b : Int) : Int := if 48 ≤ b ∧ b ≤ 57 then b - 48 else if 65 ≤ b ∧ b ≤ 70 then b - 55 else if 97 ≤ b ∧ b ≤ 102 then b - 87 else -1



theorem val_yes (b : Int) (w : World) (h : 0 ≤ valR b) :
    Calls Tryz.prog 60 #[.int .u8 b] w fun e w' => e = .returned (.tuple #[.int .i64 (valR b), .bool true]) ∧ w' = w := by
  have H : Hid (0 ≤ valR b) := h
  have C : (48 ≤ b ∧ b ≤ 57 ∧ valR b = b - 48) ∨ (65 ≤ b ∧ b ≤ 70 ∧ valR b = b - 55) ∨ (97 ≤ b ∧ b ≤ 102 ∧ valR b = b - 87) := by
    unfold valR at h ⊢; split <;> (try split) <;> (try split) <;> simp_all <;> omega
  clear h
  rcases C with ⟨h1, h2, h3⟩ | ⟨h1, h2, h3⟩ | ⟨h1, h2, h3⟩
  all_goals
    have H3 : Hid (valR b = _) := h3
    clear h3 H
    go_enter Tryz.func60, Tryz.ntmps60
    go_wp2
    go_ret2
    exact ⟨ret_two (int_eq (by rw [H3.out]; try omega)) rfl, rfl⟩

theorem valR_no (b : Int) (h : valR b < 0) : valR b = -1 ∧ ¬ (48 ≤ b ∧ b ≤ 57) ∧ ¬ (65 ≤ b ∧ b ≤ 70) ∧ ¬ (97 ≤ b ∧ b ≤ 102) := by
  unfold valR at h ⊢; split <;> (try split) <;> (try split) <;> simp_all <;> omega

theorem val_no (b : Int) (w : World) (h : valR b < 0) :
    Calls Tryz.prog 60 #[.int .u8 b] w fun e w' => e = .returned (.tuple #[.int .i64 0, .bool false]) ∧ w' = w := by
  obtain ⟨_, n1, n2, n3⟩ := valR_no b h
  clear h
  have C : b < 48 ∨ (57 < b ∧ b < 65) ∨ (70 < b ∧ b < 97) ∨ 102 < b := by omega
  clear n1 n2 n3
  rcases C with h | ⟨h, h'⟩ | ⟨h, h'⟩ | h
  all_goals
    go_enter Tryz.func60, Tryz.ntmps60
    go_wp2
    go_ret2
    exact ⟨rfl, rfl⟩

theorem valR_eq (b : Int) (k : Int) (h0 : 0 ≤ k) (h1 : k < 16) : valR b = k ↔ (b = if k < 10 then k + 48 else k + 55) ∨ (b = if k < 10 then k + 48 else k + 87) := by
  unfold valR; split <;> (try split) <;> (try split) <;> (try split) <;> omega

theorem hexU_at (k : Nat) (h : k < 16) : ((⟨#[48, 49, 50, 51, 52, 53, 54, 55, 56, 57, 65, 66, 67, 68, 69, 70]⟩ : ByteArray)[k]'h).toNat = if k < 10 then k + 48 else k + 55 := by
  have : ∀ k : Fin 16, ((⟨#[48, 49, 50, 51, 52, 53, 54, 55, 56, 57, 65, 66, 67, 68, 69, 70]⟩ : ByteArray)[k.1]'k.2).toNat = if k.1 < 10 then k.1 + 48 else k.1 + 55 := by decide
  exact this ⟨k, h⟩
theorem hexL_at (k : Nat) (h : k < 16) : ((⟨#[48, 49, 50, 51, 52, 53, 54, 55, 56, 57, 97, 98, 99, 100, 101, 102]⟩ : ByteArray)[k]'h).toNat = if k < 10 then k + 48 else k + 87 := by
  have : ∀ k : Fin 16, ((⟨#[48, 49, 50, 51, 52, 53, 54, 55, 56, 57, 97, 98, 99, 100, 101, 102]⟩ : ByteArray)[k.1]'k.2).toNat = if k.1 < 10 then k.1 + 48 else k.1 + 87 := by decide
  exact this ⟨k, h⟩

set_option maxHeartbeats 1000000 in
theorem rval_any (b : Int) (w : World) :
    Calls Tryz.prog 28 #[.int .u8 b] w fun e w' => e = .returned (.int .i64 (valR b)) ∧ w' = w := by
  go_enter Tryz.func28, Tryz.ntmps28
  go_wp2
  go_loop [3] (fun i => ∃ k : Nat, k ≤ 16 ∧ i = .int .i64 k ∧ Hid (valR b < 0 ∨ (k : Int) ≤ valR b)) (fun i => 16 - (intOf i).toNat)
  case atStart => exact ⟨0, Nat.zero_le _, rfl, (by unfold Hid; omega)⟩
  case round =>
    obtain ⟨k, hk, rfl, hin⟩ := hrel
    by_cases hlt : k < 16
    · have V := valR_eq b k (by omega) (by omega)
      have U := hexU_at k hlt
      have L := hexL_at k hlt
      by_cases t1 : (b == (((⟨#[48, 49, 50, 51, 52, 53, 54, 55, 56, 57, 65, 66, 67, 68, 69, 70]⟩ : ByteArray)[k]'hlt).toNat : Int)) = true
      · have H : Hid (valR b = k) := by
          have t2 := beq_iff_eq.1 t1
          refine V.2 (.inl ?_); rw [t2, U]; split <;> split <;> omega
        clear V U L
        go_wp2
        go_ret
        exact ⟨ret_int H.out.symm, rfl⟩
      · have t1' : (b == (((⟨#[48, 49, 50, 51, 52, 53, 54, 55, 56, 57, 65, 66, 67, 68, 69, 70]⟩ : ByteArray)[k]'hlt).toNat : Int)) = false := by simpa using t1
        by_cases t3 : (b == (((⟨#[48, 49, 50, 51, 52, 53, 54, 55, 56, 57, 97, 98, 99, 100, 101, 102]⟩ : ByteArray)[k]'hlt).toNat : Int)) = true
        · have H : Hid (valR b = k) := by
            have t2 := beq_iff_eq.1 t3
            refine V.2 (.inr ?_); rw [t2, L]; split <;> split <;> omega
          clear V U L t1
          go_wp2
          go_ret
          exact ⟨ret_int H.out.symm, rfl⟩
        · have t3' : (b == (((⟨#[48, 49, 50, 51, 52, 53, 54, 55, 56, 57, 97, 98, 99, 100, 101, 102]⟩ : ByteArray)[k]'hlt).toNat : Int)) = false := by simpa using t3
          have H : Hid (valR b < 0 ∨ ((k + 1 : Nat) : Int) ≤ valR b) := by
            have u1 := beq_eq_false_iff_ne.1 t1'
            have u2 := beq_eq_false_iff_ne.1 t3'
            rw [U] at u1; rw [L] at u2
            have u3 : valR b ≠ k := fun e => by
              rcases V.1 e with e | e
              · apply u1; rw [e]; split <;> split <;> omega
              · apply u2; rw [e]; split <;> split <;> omega
            have := hin.out
            unfold Hid; omega
          clear V U L t1 t3
          go_wp2
          go_round
          case rel => exact ⟨k + 1, by omega, by go_num, H⟩
          case measure => simp [intOf]; omega
    · have H : Hid (valR b = -1) := by
        have h2 := hin.out
        have h1 : valR b < 16 := by unfold valR; split <;> (try split) <;> (try split) <;> omega
        have h3 : valR b < 0 := by omega
        exact (valR_no b h3).1
      go_wp2
      go_ret
      exact ⟨ret_int H.out.symm, rfl⟩

/-- The digit of a value. -/
def nibI (v : Int) : Int := if v < 10 then v + 48 else v + 55

end Go.Proofs.YteimhepmcjdbpaaGreatDoor
