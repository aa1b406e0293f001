import Derived.Test.YteimhepmcjdbpaaGreatDoorUtf5
namespace Go.Proofs.YteimhepmcjdbpaaGreatDoor
open Go.RowKit

def pv (l : List UInt8) (base : Int) : Nat → Int
  | 0 => bt l 0 - base
  | k + 1 => pv l base k * 64 + bt l (k + 1) - 128
theorem pv_bd (l : List UInt8) (base : Int) (h0 : 192 ≤ base) (h1 : base ≤ 240) (k : Nat) (hk : k ≤ 3) : -100000000 ≤ pv l base k ∧ pv l base k ≤ 100000000 := by
  have b0 := bt_lt l 0
  have b1 := bt_lt l 1
  have b2 := bt_lt l 2
  have b3 := bt_lt l 3
  have c : k = 0 ∨ k = 1 ∨ k = 2 ∨ k = 3 := by omega
  rcases c with rfl | rfl | rfl | rfl <;> simp only [pv, Nat.zero_add, Nat.reduceAdd] <;> omega
def baseI (n : Nat) : Int := if n = 3 then 224 else if n = 4 then 240 else 192
def valS (s : ByteArray) : Int := if s.size = 1 then bt s.data.toList 0 else pv s.data.toList (baseI s.size) (s.size - 1)

set_option maxRecDepth 100000 in
set_option maxHeartbeats 2000000 in
theorem value_224 (s : ByteArray) (w : World) (h1 : 2 ≤ s.size) (h4 : s.size ≤ 4) (q3 : ((s.size : Int) == 3) = true) (q4 : ((s.size : Int) == 4) = false) (H : Hid (valS s = pv s.data.toList 224 (s.size - 1))) :
    Calls Tryz.prog 92 #[.string s] w fun e w' => e = .returned (.int .i64 (valS s)) ∧ w' = w := by
  have HB0 : Hid (bt s.data.toList 0 = s[0].toNat) := bt_at s 0 (by omega)
  have hbl := byte_le s[0]
  have e1' : ((s.size : Int) == 1) = false := by rw [beq_eq_false_iff_ne]; omega
  have PB := fun k hk => pv_bd s.data.toList 224 (by omega) (by omega) k hk
  have HPB : Hid (∀ k, k ≤ 3 → -100000000 ≤ pv s.data.toList 224 k ∧ pv s.data.toList 224 k ≤ 100000000) := PB
  clear PB
  have hst : Hid ((s[0].toNat : Int) - 224 = pv s.data.toList 224 0) := by show (s[0].toNat : Int) - 224 = _; unfold pv; rw [HB0.out]
  go_enter Tryz.func92, Tryz.ntmps92
  go_wp2
  go_loop [3, 4] (fun v i => ∃ k : Nat, k + 1 ≤ s.size ∧ i = .int .i64 ((k + 1 : Nat) : Int) ∧ v = .int .i64 (pv s.data.toList 224 k)) (fun _ i => s.size - (intOf i).toNat)
  case atStart => exact ⟨0, by omega, rfl, int_eq hst.out⟩
  case round =>
    obtain ⟨k, hk, rfl, rfl⟩ := hrel
    have bd := HPB.out k (by omega)
    have bd1 := bd.1
    have bd2 := bd.2
    clear bd
    by_cases hlt : k + 1 < s.size
    · have hb1 := byte_le s[k + 1]
      have HS : Hid (pv s.data.toList 224 (k + 1) = pv s.data.toList 224 k * 64 + s[k + 1].toNat - 128) := by show _ = _; simp only [pv]; rw [bt_at s (k + 1) hlt]
      go_wp2
      go_round
      case rel => exact ⟨k + 1, by omega, by go_num, int_eq HS.out.symm⟩
      case measure => simp [intOf]; omega
    · have HE : Hid (s.size - 1 = k) := by show _ = _; omega
      go_wp2
      go_ret
      exact ⟨ret_int (by rw [H.out, HE.out]), rfl⟩

set_option maxRecDepth 100000 in
set_option maxHeartbeats 2000000 in
theorem value_240 (s : ByteArray) (w : World) (h1 : 2 ≤ s.size) (h4 : s.size ≤ 4) (q3 : ((s.size : Int) == 3) = false) (q4 : ((s.size : Int) == 4) = true) (H : Hid (valS s = pv s.data.toList 240 (s.size - 1))) :
    Calls Tryz.prog 92 #[.string s] w fun e w' => e = .returned (.int .i64 (valS s)) ∧ w' = w := by
  have HB0 : Hid (bt s.data.toList 0 = s[0].toNat) := bt_at s 0 (by omega)
  have hbl := byte_le s[0]
  have e1' : ((s.size : Int) == 1) = false := by rw [beq_eq_false_iff_ne]; omega
  have PB := fun k hk => pv_bd s.data.toList 240 (by omega) (by omega) k hk
  have HPB : Hid (∀ k, k ≤ 3 → -100000000 ≤ pv s.data.toList 240 k ∧ pv s.data.toList 240 k ≤ 100000000) := PB
  clear PB
  have hst : Hid ((s[0].toNat : Int) - 240 = pv s.data.toList 240 0) := by show (s[0].toNat : Int) - 240 = _; unfold pv; rw [HB0.out]
  go_enter Tryz.func92, Tryz.ntmps92
  go_wp2
  go_loop [3, 4] (fun v i => ∃ k : Nat, k + 1 ≤ s.size ∧ i = .int .i64 ((k + 1 : Nat) : Int) ∧ v = .int .i64 (pv s.data.toList 240 k)) (fun _ i => s.size - (intOf i).toNat)
  case atStart => exact ⟨0, by omega, rfl, int_eq hst.out⟩
  case round =>
    obtain ⟨k, hk, rfl, rfl⟩ := hrel
    have bd := HPB.out k (by omega)
    have bd1 := bd.1
    have bd2 := bd.2
    clear bd
    by_cases hlt : k + 1 < s.size
    · have hb1 := byte_le s[k + 1]
      have HS : Hid (pv s.data.toList 240 (k + 1) = pv s.data.toList 240 k * 64 + s[k + 1].toNat - 128) := by show _ = _; simp only [pv]; rw [bt_at s (k + 1) hlt]
      go_wp2
      go_round
      case rel => exact ⟨k + 1, by omega, by go_num, int_eq HS.out.symm⟩
      case measure => simp [intOf]; omega
    · have HE : Hid (s.size - 1 = k) := by show _ = _; omega
      go_wp2
      go_ret
      exact ⟨ret_int (by rw [H.out, HE.out]), rfl⟩

set_option maxRecDepth 100000 in
set_option maxHeartbeats 2000000 in
theorem value_192 (s : ByteArray) (w : World) (h1 : 2 ≤ s.size) (h4 : s.size ≤ 4) (q3 : ((s.size : Int) == 3) = false) (q4 : ((s.size : Int) == 4) = false) (H : Hid (valS s = pv s.data.toList 192 (s.size - 1))) :
    Calls Tryz.prog 92 #[.string s] w fun e w' => e = .returned (.int .i64 (valS s)) ∧ w' = w := by
  have HB0 : Hid (bt s.data.toList 0 = s[0].toNat) := bt_at s 0 (by omega)
  have hbl := byte_le s[0]
  have e1' : ((s.size : Int) == 1) = false := by rw [beq_eq_false_iff_ne]; omega
  have PB := fun k hk => pv_bd s.data.toList 192 (by omega) (by omega) k hk
  have HPB : Hid (∀ k, k ≤ 3 → -100000000 ≤ pv s.data.toList 192 k ∧ pv s.data.toList 192 k ≤ 100000000) := PB
  clear PB
  have hst : Hid ((s[0].toNat : Int) - 192 = pv s.data.toList 192 0) := by show (s[0].toNat : Int) - 192 = _; unfold pv; rw [HB0.out]
  go_enter Tryz.func92, Tryz.ntmps92
  go_wp2
  go_loop [3, 4] (fun v i => ∃ k : Nat, k + 1 ≤ s.size ∧ i = .int .i64 ((k + 1 : Nat) : Int) ∧ v = .int .i64 (pv s.data.toList 192 k)) (fun _ i => s.size - (intOf i).toNat)
  case atStart => exact ⟨0, by omega, rfl, int_eq hst.out⟩
  case round =>
    obtain ⟨k, hk, rfl, rfl⟩ := hrel
    have bd := HPB.out k (by omega)
    have bd1 := bd.1
    have bd2 := bd.2
    clear bd
    by_cases hlt : k + 1 < s.size
    · have hb1 := byte_le s[k + 1]
      have HS : Hid (pv s.data.toList 192 (k + 1) = pv s.data.toList 192 k * 64 + s[k + 1].toNat - 128) := by show _ = _; simp only [pv]; rw [bt_at s (k + 1) hlt]
      go_wp2
      go_round
      case rel => exact ⟨k + 1, by omega, by go_num, int_eq HS.out.symm⟩
      case measure => simp [intOf]; omega
    · have HE : Hid (s.size - 1 = k) := by show _ = _; omega
      go_wp2
      go_ret
      exact ⟨ret_int (by rw [H.out, HE.out]), rfl⟩

theorem value_any (s : ByteArray) (w : World) (h1 : 1 ≤ s.size) (h4 : s.size ≤ 4) :
    Calls Tryz.prog 92 #[.string s] w fun e w' => e = .returned (.int .i64 (valS s)) ∧ w' = w := by
  by_cases e1 : s.size = 1
  · have HB0 : Hid (bt s.data.toList 0 = s[0].toNat) := bt_at s 0 (by omega)
    have hbl := byte_le s[0]
    have H : Hid (valS s = s[0].toNat) := by show _ = _; unfold valS; rw [if_pos e1, HB0.out]
    have e1' : ((s.size : Int) == 1) = true := by simp [e1]
    clear e1
    go_enter Tryz.func92, Tryz.ntmps92
    go_wp2
    go_ret
    exact ⟨ret_int H.out.symm, rfl⟩
  · have hv : valS s = pv s.data.toList (baseI s.size) (s.size - 1) := by unfold valS; rw [if_neg e1]
    by_cases q3 : s.size = 3
    · exact value_224 s w (by omega) h4 (by simp [q3]) (by simp [q3]) (by show _ = _; rw [hv]; unfold baseI; rw [if_pos q3])
    · by_cases q4 : s.size = 4
      · exact value_240 s w (by omega) h4 (by rw [beq_eq_false_iff_ne]; omega) (by simp [q4]) (by show _ = _; rw [hv]; unfold baseI; rw [if_neg q3, if_pos q4])
      · exact value_192 s w (by omega) h4 (by rw [beq_eq_false_iff_ne]; omega) (by rw [beq_eq_false_iff_ne]; omega) (by show _ = _; rw [hv]; unfold baseI; rw [if_neg q3, if_neg q4])

/-- A row's value, of the bytes that it takes. -/
theorem valS_eq (s : ByteArray) (h : okL s.data.toList = true) : valS (s.extract 0 (fit s.data.toList)) = valL s.data.toList ∧ (s.extract 0 (fit s.data.toList)).size = fit s.data.toList := by
  obtain ⟨hne, hf⟩ := (okL_iff _).1 h
  obtain ⟨f1, f4, fg, fn⟩ := fit_spec s.data.toList
  have hfl := fit_le _ hne
  have hx : (s.extract 0 (fit s.data.toList)).data.toList = s.data.toList.take (fit s.data.toList) := by rw [ext_list]; simp
  have hsz : (s.extract 0 (fit s.data.toList)).size = fit s.data.toList := by rw [← len_size, hx, List.length_take]; omega
  refine ⟨?_, hsz⟩
  unfold valS
  rw [hsz]
  have hb : ∀ j, j < fit s.data.toList → bt (s.extract 0 (fit s.data.toList)).data.toList j = bt s.data.toList j := by
    intro j hj
    unfold bt
    rw [hx, List.getD_eq_getElem?_getD, List.getD_eq_getElem?_getD, List.getElem?_take, if_pos hj]
  generalize (s.extract 0 (fit s.data.toList)).data.toList = m at *
  generalize s.data.toList = l at *
  have k1 : 2 ≤ fit l → 128 ≤ bt l 1 := fun g => (goOn_cont l 1 (by omega) (fg 1 (by omega) (by omega))).1
  have k2 : 3 ≤ fit l → 128 ≤ bt l 2 := fun g => (goOn_cont l 2 (by omega) (fg 2 (by omega) (by omega))).1
  have k3 : 4 ≤ fit l → 128 ≤ bt l 3 := fun g => (goOn_cont l 3 (by omega) (fg 3 (by omega) (by omega))).1
  have r := rowB_cases (bt l 0) (bt_lt l 0)
  have c : fit l = 1 ∨ fit l = 2 ∨ fit l = 3 ∨ fit l = 4 := by omega
  unfold valL
  rw [hf]
  rcases c with c | c | c | c
  · rw [c] at hb ⊢
    rw [if_pos rfl, if_pos rfl, hb 0 (by omega)]
  · rw [c] at hb hf k1 ⊢
    have e0 := hb 0 (by omega)
    have e1 := hb 1 (by omega)
    have h0 : 192 ≤ bt l 0 := by rcases r with ⟨_, e⟩ | ⟨_, _, e⟩ | ⟨_, e⟩ | ⟨_, _, e⟩ | ⟨_, e⟩ | ⟨_, _, e⟩ | ⟨_, e⟩ | ⟨_, _, e⟩ | ⟨_, e⟩ | ⟨_, e⟩ <;> rw [e] at hf <;> simp at hf <;> omega
    simp only [baseI, pv, Nat.zero_add, Nat.reduceEqDiff, if_false, if_true, Nat.reduceSub, e0, e1]
    have := k1 (by omega)
    omega
  · rw [c] at hb hf k1 k2 ⊢
    have e0 := hb 0 (by omega)
    have e1 := hb 1 (by omega)
    have e2 := hb 2 (by omega)
    have h0 : 224 ≤ bt l 0 := by rcases r with ⟨_, e⟩ | ⟨_, _, e⟩ | ⟨_, e⟩ | ⟨_, _, e⟩ | ⟨_, e⟩ | ⟨_, _, e⟩ | ⟨_, e⟩ | ⟨_, _, e⟩ | ⟨_, e⟩ | ⟨_, e⟩ <;> rw [e] at hf <;> simp at hf <;> omega
    simp only [baseI, pv, Nat.zero_add, Nat.reduceAdd, Nat.reduceEqDiff, if_false, if_true, Nat.reduceSub, e0, e1, e2]
    have := k1 (by omega)
    have := k2 (by omega)
    omega
  · rw [c] at hb hf k1 k2 k3 ⊢
    have e0 := hb 0 (by omega)
    have e1 := hb 1 (by omega)
    have e2 := hb 2 (by omega)
    have e3 := hb 3 (by omega)
    have h0 : 240 ≤ bt l 0 := by rcases r with ⟨_, e⟩ | ⟨_, _, e⟩ | ⟨_, e⟩ | ⟨_, _, e⟩ | ⟨_, e⟩ | ⟨_, _, e⟩ | ⟨_, e⟩ | ⟨_, _, e⟩ | ⟨_, e⟩ | ⟨_, e⟩ <;> rw [e] at hf <;> simp at hf <;> omega
    simp only [baseI, pv, Nat.zero_add, Nat.reduceAdd, Nat.reduceEqDiff, if_false, if_true, Nat.reduceSub, e0, e1, e2, e3]
    have := k1 (by omega)
    have := k2 (by omega)
    have := k3 (by omega)
    omega
end Go.Proofs.YteimhepmcjdbpaaGreatDoor
