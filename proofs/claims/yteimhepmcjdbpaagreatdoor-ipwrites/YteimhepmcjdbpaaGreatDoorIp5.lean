import Derived.Test.YteimhepmcjdbpaaGreatDoorIp4
namespace Go.Proofs.YteimhepmcjdbpaaGreatDoor
open Go.RowKit
namespace Ip

/-- A hexadecimal digit; what digits say; what the digits between two colons say, -1: nothing. -/
def hxB (x : UInt8) : Bool := decide (0 ≤ valR x.toNat)
def hexI (l : List UInt8) : Int := l.foldl (fun n x => n * 16 + valR x.toNat) 0
def woL (l : List UInt8) : Int := if l ≠ [] ∧ l.length ≤ 4 ∧ l.all hxB = true then hexI l else -1

theorem valR_16 (b : Int) : valR b < 16 := by unfold valR; split <;> (try split) <;> (try split) <;> omega
theorem hexI_snoc (l : List UInt8) (x : UInt8) : hexI (l ++ [x]) = hexI l * 16 + valR x.toNat := by
  unfold hexI; rw [List.foldl_append]; rfl
theorem hexI_bd : ∀ l : List UInt8, l.length ≤ 4 → l.all hxB = true → 0 ≤ hexI l ∧ hexI l ≤ 65535 ∧ (l.length ≤ 3 → hexI l ≤ 4095) := by
  intro l hl hd
  match l, hl, hd with
  | [], _, _ => exact ⟨by decide, by decide, fun _ => by decide⟩
  | [a], _, hd =>
    have h1 := valR_16 a.toNat
    simp only [List.all_cons, List.all_nil, Bool.and_true, hxB, decide_eq_true_eq] at hd
    simp only [hexI, List.foldl, List.length]; omega
  | [a, b], _, hd =>
    have h1 := valR_16 a.toNat
    have h2 := valR_16 b.toNat
    simp only [List.all_cons, List.all_nil, Bool.and_true, hxB, decide_eq_true_eq, Bool.and_eq_true] at hd
    simp only [hexI, List.foldl, List.length]; omega
  | [a, b, c], _, hd =>
    have h1 := valR_16 a.toNat
    have h2 := valR_16 b.toNat
    have h3 := valR_16 c.toNat
    simp only [List.all_cons, List.all_nil, Bool.and_true, hxB, decide_eq_true_eq, Bool.and_eq_true] at hd
    simp only [hexI, List.foldl, List.length]; omega
  | [a, b, c, d], _, hd =>
    have h1 := valR_16 a.toNat
    have h2 := valR_16 b.toNat
    have h3 := valR_16 c.toNat
    have h4 := valR_16 d.toNat
    simp only [List.all_cons, List.all_nil, Bool.and_true, hxB, decide_eq_true_eq, Bool.and_eq_true] at hd
    simp only [hexI, List.foldl, List.length]; omega
  | _ :: _ :: _ :: _ :: _ :: _, hl, _ => simp at hl

theorem woL_bd (l : List UInt8) : -1 ≤ woL l ∧ woL l ≤ 65535 := by
  unfold woL
  split
  · rename_i h
    have := hexI_bd l h.2.1 h.2.2
    omega
  · omega
def woV (l : List UInt8) : Int := if 0 ≤ woL l then woL l else 0

theorem or16 (x v : Int) (h0 : 0 ≤ x) (h1 : x ≤ 1000000) (v0 : 0 ≤ v) (v1 : v < 16) : bits .or .i64 (x * 16) v = x * 16 + v := by
  obtain ⟨n, rfl⟩ := Int.eq_ofNat_of_zero_le h0
  obtain ⟨m, rfl⟩ := Int.eq_ofNat_of_zero_le v0
  have e1 : (BitVec.ofInt 64 ((n : Int) * 16)).toNat = n * 16 := by
    rw [show ((n : Int) * 16) = ((n * 16 : Nat) : Int) by omega, BitVec.ofInt_natCast, BitVec.toNat_ofNat]; exact Nat.mod_eq_of_lt (by omega)
  have e2 : (BitVec.ofInt 64 (m : Int)).toNat = m := by
    rw [BitVec.ofInt_natCast, BitVec.toNat_ofNat]; exact Nat.mod_eq_of_lt (by omega)
  show IntKind.i64.wrap ((BitVec.ofInt 64 ((n : Int) * 16) ||| BitVec.ofInt 64 (m : Int)).toNat : Int) = _
  rw [BitVec.toNat_or, e1, e2, show n * 16 = n <<< 4 by rw [Nat.shiftLeft_eq], ← Nat.shiftLeft_add_eq_or_of_lt (by omega : m < 2 ^ 4), Nat.shiftLeft_eq, IntKind.wrap_i64]
  omega
theorem or256 (x v : Int) (h0 : 0 ≤ x) (h1 : x ≤ 255) (v0 : 0 ≤ v) (v1 : v < 256) : bits .or .u16 (x * 256) v = x * 256 + v := by
  obtain ⟨n, rfl⟩ := Int.eq_ofNat_of_zero_le h0
  obtain ⟨m, rfl⟩ := Int.eq_ofNat_of_zero_le v0
  have e1 : (BitVec.ofInt 16 ((n : Int) * 256)).toNat = n * 256 := by
    rw [show ((n : Int) * 256) = ((n * 256 : Nat) : Int) by omega, BitVec.ofInt_natCast, BitVec.toNat_ofNat]; exact Nat.mod_eq_of_lt (by omega)
  have e2 : (BitVec.ofInt 16 (m : Int)).toNat = m := by
    rw [BitVec.ofInt_natCast, BitVec.toNat_ofNat]; exact Nat.mod_eq_of_lt (by omega)
  show IntKind.u16.wrap ((BitVec.ofInt 16 ((n : Int) * 256) ||| BitVec.ofInt 16 (m : Int)).toNat : Int) = _
  rw [BitVec.toNat_or, e1, e2, show n * 256 = n <<< 8 by rw [Nat.shiftLeft_eq], ← Nat.shiftLeft_add_eq_or_of_lt (by omega : m < 2 ^ 8), Nat.shiftLeft_eq, IntKind.wrap_u16]
  omega

theorem pack_any (a b : Int) (w : World) (a0 : 0 ≤ a) (a1 : a ≤ 255) (b0 : 0 ≤ b) (b1 : b ≤ 255) :
    Calls Tryz.prog 44 #[.int .u8 a, .int .u8 b] w fun e w' => e = .returned (.int .u16 (a * 256 + b)) ∧ w' = w := by
  have H := hid (or256 a b a0 a1 b0 (by omega))
  go_enter Tryz.func44, Tryz.ntmps44
  go_wp2
  go_ret
  exact ⟨ret_int H.out, rfl⟩

set_option maxHeartbeats 2000000 in
theorem word_any (s : ByteArray) (w : World) (hs : s.size ≤ maxLen) :
    Calls Tryz.prog 42 #[.string s] w fun e w' => e = .returned (.tuple #[.int .u16 (woV s.data.toList), .bool (decide (0 ≤ woL s.data.toList))]) ∧ w' = w := by
  unfold maxLen at hs
  have bad : ¬ (s.data.toList ≠ [] ∧ s.data.toList.length ≤ 4 ∧ s.data.toList.all hxB = true) → Hid (woV s.data.toList = 0 ∧ decide (0 ≤ woL s.data.toList) = false) := by
    intro h
    have e : woL s.data.toList = -1 := if_neg h
    unfold woV; rw [e]; exact ⟨rfl, rfl⟩
  by_cases h0 : 0 < s.size
  · have HE := empty_no s h0
    by_cases h4 : s.size ≤ 4
    · have HB := hid bad
      clear bad
      go_enter Tryz.func42, Tryz.ntmps42
      go_wp2
      go_loop [4, 17] (fun n i => ∃ k : Nat, k ≤ s.size ∧ n = .int .i64 (hexI (s.data.toList.take k)) ∧ i = .int .i64 k ∧ Hid ((s.data.toList.take k).all hxB = true)) (fun _ i => s.size - (intOf i).toNat)
      case atStart => exact ⟨0, Nat.zero_le _, rfl, rfl, rfl⟩
      case round =>
        obtain ⟨k, hk, rfl, rfl, hA⟩ := hrel
        by_cases hlt : k < s.size
        · have hn := hexI_bd (s.data.toList.take k) (by rw [List.length_take, len_size]; omega) hA.out
          have hn3 : hexI (s.data.toList.take k) ≤ 4095 := hn.2.2 (by rw [List.length_take, len_size]; omega)
          have HN : Hid (hexI (s.data.toList.take (k + 1)) = hexI (s.data.toList.take k) * 16 + valR s[k].toNat) := by
            show _ = _; rw [take_snoc s k hlt, hexI_snoc]
          by_cases hv : 0 ≤ valR (s[k].toNat : Int)
          · have HV := hid hv
            have HO := hid (or16 (hexI (s.data.toList.take k)) (valR s[k].toNat) hn.1 (by omega) hv (valR_16 _))
            have HA2 : Hid ((s.data.toList.take (k + 1)).all hxB = true) := by
              show _ = _; rw [take_snoc s k hlt, List.all_append, hA.out]; simp [hxB, hv]
            have hb := valR_16 (s[k].toNat : Int)
            have hn0 := hn.1
            clear hn
            generalize hexI (s.data.toList.take k) = n at *
            go_wp2_with (go_at_call 60; refine (val_yes _ _ HV.out).mono ?_; rintro e w' ⟨rfl, rfl⟩)
            go_round
            case rel => exact ⟨k + 1, by omega, by rw [HN.out, ← HO.out], by go_num, HA2⟩
            case measure => simp [intOf]; omega
          · have HV : Hid (valR (s[k].toNat : Int) < 0) := by show _ < _; omega
            have H := HB.out (fun h => hv (of_decide_eq_true (all_at h.2.2 k hlt)))
            clear hv hn
            generalize hexI (s.data.toList.take k) = n at *
            go_wp2_with (go_at_call 60; refine (val_no _ _ HV.out).mono ?_; rintro e w' ⟨rfl, rfl⟩)
            go_ret2
            exact ⟨by rw [H.out.1, H.out.2]; rfl, rfl⟩
        · have e : s.data.toList.take k = s.data.toList := List.take_of_length_le (by rw [len_size]; omega)
          rw [e] at hA ⊢
          have hn := hexI_bd s.data.toList (by rw [len_size]; exact h4) hA.out
          have hne : s.data.toList ≠ [] := by intro e; rw [← len_size, e] at h0; exact absurd h0 (Nat.lt_irrefl _)
          have hw : woL s.data.toList = hexI s.data.toList := if_pos ⟨hne, by rw [len_size]; exact h4, hA.out⟩
          have H : Hid (woV s.data.toList = hexI s.data.toList ∧ decide (0 ≤ woL s.data.toList) = true) := by
            unfold woV; rw [hw, if_pos hn.1]; exact ⟨rfl, decide_eq_true hn.1⟩
          obtain ⟨n0, n1, _⟩ := hn
          clear hw hne e
          generalize hexI s.data.toList = n at *
          have hm : n % 65536 = n := by omega
          go_wp2_with fail
          go_ret2
          exact ⟨by rw [H.out.1, H.out.2]; rfl, rfl⟩
    · have H := bad (fun h => h4 (by rw [← len_size]; exact h.2.1))
      clear bad
      go_enter Tryz.func42, Tryz.ntmps42
      go_wp2
      go_ret2
      exact ⟨by rw [H.out.1, H.out.2]; rfl, rfl⟩
  · have e : s.data.toList = [] := List.eq_nil_of_length_eq_zero (by rw [len_size]; omega)
    have HE : s.toList.isEmpty = true := by rw [ByteArray.toList_eq, e]; rfl
    have H := bad (fun h => h.1 e)
    clear bad
    go_enter Tryz.func42, Tryz.ntmps42
    go_wp2
    go_ret2
    exact ⟨by rw [H.out.1, H.out.2]; rfl, rfl⟩

/-- Words behind each other as a part lies in memory: eight cells and their number. -/
def pts (ws : List Int) : List Value := (ws ++ List.replicate (8 - ws.length) 0).map (.int .u16 ·) ++ [.int .i64 (ws.length : Int)]

theorem pts_len (ws : List Int) (h : ws.length ≤ 8) : (pts ws).length = 9 := by simp [pts]; omega
theorem pts_last (ws : List Int) (h : ws.length ≤ 8) : (pts ws)[8]? = some (.int .i64 (ws.length : Int)) := by
  unfold pts
  rw [List.getElem?_append_right (by simp; omega)]
  have : 8 - ((ws ++ List.replicate (8 - ws.length) 0).map (Value.int .u16 ·)).length = 0 := by simp; omega
  rw [this]; rfl
theorem pts_next (ws : List Int) (x : Int) (h : ws.length < 8) : ((pts ws).set ws.length (.int .u16 x)).set 8 (.int .i64 ((ws.length : Int) + 1)) = pts (ws ++ [x]) := by
  unfold pts
  obtain ⟨m, hm⟩ : ∃ m, 8 - ws.length = m + 1 := ⟨7 - ws.length, by omega⟩
  have hm2 : 8 - (ws ++ [x]).length = m := by simp; omega
  rw [hm, hm2, List.replicate_succ, List.set_append_left _ _ (by simp), ← List.map_set, List.set_append_right _ _ (Nat.le_refl _), Nat.sub_self, List.set_cons_zero,
    List.set_append_right _ _ (by simp; omega)]
  have e : 8 - ((ws ++ x :: List.replicate m 0).map (Value.int .u16 ·)).length = 0 := by simp; omega
  rw [e]
  simp

/-- What putting a word leaves of all that lay in memory. -/
structure Pw (w w' : World) (b : Nat) (ws : List Int) (x : Int) : Prop where
  keep : ∀ g l, g ≠ b → Li w g l → Li w' g l
  next : Li w' b (pts (ws ++ [x]))
  bel : Below b w w'
  size : w'.heap.size = w.heap.size

set_option maxHeartbeats 1000000 in
theorem put_yes {w : World} {b : Nat} {ws : List Int} (x : Int) (hL : Li w b (pts ws)) (h : ws.length < 8) :
    Calls Tryz.prog 43 #[.pointer (some ⟨b, 0, none⟩), .int .u16 x] w fun e w' => e = .returned (.bool true) ∧ Pw w w' b ws x := by
  have h8 : ws.length ≤ 8 := by omega
  have HL := hid hL
  obtain ⟨c8, z8⟩ := hL.at 8 _ (pts_last ws h8)
  clear hL
  have hk : ∃ v, (pts ws)[ws.length]? = some v := ⟨_, List.getElem?_eq_getElem (by rw [pts_len ws h8]; omega)⟩
  obtain ⟨v0, hk⟩ := hk
  obtain ⟨ck, zk⟩ := HL.out.at ws.length v0 hk
  have h8' : ((ws.length : Int) == 8) = false := by rw [beq_eq_false_iff_ne]; omega
  go_enter Tryz.func43, Tryz.ntmps43
  go_wp2
  go_region
  have M := hid (HL.out.set ws.length (.int .u16 x))
  have hM8 : ((pts ws).set ws.length (.int .u16 x))[8]? = some (.int .i64 (ws.length : Int)) := by
    rw [List.getElem?_set_ne (by omega)]; exact pts_last ws h8
  obtain ⟨m8, y8⟩ := M.out.at 8 _ hM8
  have m8' : (w.setCell ⟨b, ws.length, none⟩ (.int .u16 x)).drew.cell? ⟨b, 8, none⟩ = some (.int .i64 (ws.length : Int)) := m8
  have y8' : (w.setCell ⟨b, ws.length, none⟩ (.int .u16 x)).drew.frozen? ⟨b, 8, none⟩ = false := y8
  have N := hid (M.out.set 8 (.int .i64 ((ws.length : Int) + 1)))
  clear m8 y8 M hM8
  go_wp2_with fail
  go_ret
  refine ⟨rfl, ?_, ?_, (((Below.refl _ _).setCell (p := ⟨b, ws.length, none⟩) (Nat.le_refl _) _).setCell (p := ⟨b, 8, none⟩) (Nat.le_refl _) _).drew, by simp [World.setCell, World.drew]⟩
  · intro g l hg hl
    exact (hl.other ⟨b, ws.length, none⟩ _ (Ne.symm hg)).other ⟨b, 8, none⟩ _ (Ne.symm hg)
  · have := N.out
    rw [pts_next ws x h] at this
    exact this
theorem put_no {w : World} {b : Nat} {ws : List Int} (x : Int) (hL : Li w b (pts ws)) (h : ws.length = 8) :
    Calls Tryz.prog 43 #[.pointer (some ⟨b, 0, none⟩), .int .u16 x] w fun e w' => e = .returned (.bool false) ∧ w' = w := by
  obtain ⟨c8, z8⟩ := hL.at 8 _ (pts_last ws (by omega))
  have h8' : ((ws.length : Int) == 8) = true := by rw [beq_iff_eq]; omega
  clear hL
  go_enter Tryz.func43, Tryz.ntmps43
  go_wp2
  go_ret
  exact ⟨rfl, rfl⟩
end Ip
end Go.Proofs.YteimhepmcjdbpaaGreatDoor
