import Derived.Test.YteimhepmcjdbpaaGreatDoorLex3
namespace Go.Proofs.YteimhepmcjdbpaaGreatDoor
open Go.RowKit
namespace Le

/-- May a text be a scheme? -/
def scL (l : List UInt8) : Bool := !decide (spanN 1 l = 0) && l.all fun x => okS x.toNat

theorem span_head (a : UInt8) (l : List UInt8) : spanN 1 (a :: l) = 0 ↔ isB a.toNat 1 = false := by
  unfold spanN
  cases h : isB a.toNat 1
  · simp [h]
  · simp [h]
theorem all_false (l : List UInt8) (k : Nat) (h : k < l.length) (hx : okS l[k].toNat = false) : (l.all fun x => okS x.toNat) = false := by
  rw [List.all_eq_false]
  exact ⟨l[k], List.getElem_mem h, by rw [hx]; simp⟩


/-- A letter's class is odd; a letter's or a digit's meets 3. -/
theorem odd_all : ((List.range 256).all fun n => (isB (n : Int) 1 == !((clsI (n : Int)) % 2 == 0)) && (isB (n : Int) 3 == !(bits BinOp.and IntKind.i64 (clsI (n : Int)) 3 == 0))) = true := by decide +kernel
theorem odd_is (c : UInt8) : ((clsI (c.toNat : Int)) % 2 == 0) = !isB (c.toNat : Int) 1 ∧ (bits BinOp.and IntKind.i64 (clsI (c.toNat : Int)) 3 == 0) = !isB (c.toNat : Int) 3 := by
  have := List.all_eq_true.1 odd_all c.toNat (by have := c.toNat_lt; simp; omega)
  simp only [Bool.and_eq_true, beq_iff_eq] at this
  obtain ⟨h1, h2⟩ := this
  rw [h1, h2]; simp
theorem cls_bd (c : UInt8) : 0 ≤ clsI (c.toNat : Int) ∧ clsI (c.toNat : Int) ≤ 34 := by
  unfold clsI
  repeat' split
  all_goals omega


set_option maxHeartbeats 2000000 in
theorem rsp_any (p : Int) (iri : Bool) (s : ByteArray) (w : World) (hs : s.size ≤ maxLen) :
    Calls Tryz.prog 32 #[.int .i64 p, .bool iri, .string s] w fun e w' => e = .returned (.int .i64 (spL p iri s.data.toList)) ∧ Below w.heap.size w w' := by
  have HS : Hid (s.size ≤ maxLen) := hs
  have HT := hid (fun (k : Nat) (hk : k ≤ s.size) w => rst_any p iri s k w HS.out hk)
  unfold maxLen at hs
  cases k1 : plcB p
  · have H : Hid (spL p iri s.data.toList = 0) := by show _ = _; unfold spL; rw [k1]; rfl
    rw [k1] at HT
    have hok := Ok.start w
    have H0 := hid (HT.out 0 (Nat.zero_le _))
    clear HT
    by_cases hn : 0 < s.size
    · go_enter Tryz.func32, Tryz.ntmps32
      go_wp2
      go_loopw [7] (fun i wr => i = .int .i64 0 ∧ Ok w.heap.size w wr) (fun i _ => 0)
      case atStart => exact ⟨rfl, hok⟩
      case round =>
        obtain ⟨rfl, hok⟩ := hrel
        go_wp2_with (first | (go_at_call 52; refine (H0.out _).mono ?_; rintro e w' ⟨rfl, hb'⟩; replace hok := hok.step hb'; clear hb'))
        go_ret
        exact ⟨ret_int (by rw [H.out]; rfl), hok.1⟩
    · go_enter Tryz.func32, Tryz.ntmps32
      go_wp2
      go_loopw [7] (fun i wr => i = .int .i64 0 ∧ Ok w.heap.size w wr) (fun i _ => 0)
      case atStart => exact ⟨rfl, hok⟩
      case round =>
        obtain ⟨rfl, hok⟩ := hrel
        go_wp2_with fail
        go_ret
        exact ⟨ret_int (by rw [H.out]; rfl), hok.1⟩
  have HK : Hid (spL p iri s.data.toList = spF p iri s.data.toList s.size 0) := by show _ = _; unfold spL; rw [if_pos k1, len_size]
  rw [k1] at HT
  clear k1
  go_enter Tryz.func32, Tryz.ntmps32
  go_wp2
  go_loopw [7] (fun i wr => ∃ k fuel : Nat, i = .int .i64 k ∧ k ≤ s.size ∧ Ok w.heap.size w wr ∧ s.size ≤ k + fuel ∧ Hid (spF p iri s.data.toList fuel k = spL p iri s.data.toList)) (fun i _ => s.size - (intOf i).toNat)
  case atStart => exact ⟨0, s.size, rfl, by omega, Ok.start w, by omega, HK.out.symm⟩
  case round =>
    obtain ⟨k, fuel, rfl, hks, hok, hfu, hF⟩ := hrel
    have HD : Hid (∀ w, Calls Tryz.prog 52 #[.int .i64 p, .bool iri, .string s, .int .i64 k] w fun e w' => e = .returned (.int .i64 (stN p iri (s.data.toList.drop k) : Nat)) ∧ Below w.heap.size w w') := hid (fun w => by have := HT.out k hks w; rwa [if_pos trivial] at this)
    by_cases hp : k < s.size
    · obtain ⟨f, rfl⟩ : ∃ f, fuel = f + 1 := ⟨fuel - 1, by omega⟩
      have hF2 := hF.out
      have hle := stN_le p iri (s.data.toList.drop k)
      rw [List.length_drop, len_size] at hle
      by_cases h0 : stN p iri (s.data.toList.drop k) = 0
      · rw [spF_end _ _ _ _ _ h0] at hF2
        rw [h0] at HD
        have H2 := hid hF2
        clear hF2 h0 hF hle
        go_wp2_with (first | (go_at_call 52; refine (HD.out _).mono ?_; rintro e w' ⟨rfl, hb'⟩; replace hok := hok.step hb'; clear hb'))
        go_ret
        exact ⟨ret_int (by rw [H2.out]), hok.1⟩
      · simp only [spF] at hF2
        rw [if_neg h0] at hF2
        have H2 := hid hF2
        clear hF2 hF
        generalize stN p iri (s.data.toList.drop k) = m at *
        have h0' : (0 : Int) < (m : Int) := by omega
        go_wp2_with (first | (go_at_call 52; refine (HD.out _).mono ?_; rintro e w' ⟨rfl, hb'⟩; replace hok := hok.step hb'; clear hb'))
        go_roundw
        case rel => exact ⟨k + m, f, by go_num, by omega, hok, by omega, H2⟩
        case measure => simp [intOf]; try omega
    · have H2 : Hid ((k : Int) = spL p iri s.data.toList) := by
        show _ = _; rw [← hF.out, spF_end]
        rw [List.drop_of_length_le (by rw [len_size]; omega)]; exact stN_nil _ _
      clear hF HD
      go_wp2_with fail
      go_ret
      exact ⟨ret_int H2.out, hok.1⟩
end Le
end Go.Proofs.YteimhepmcjdbpaaGreatDoor
