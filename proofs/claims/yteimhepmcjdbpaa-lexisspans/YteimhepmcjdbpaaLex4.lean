import Derived.Test.YteimhepmcjdbpaaLex3
namespace Go.Proofs.Yteimhepmcjdbpaa
open Go.RowKit
namespace Le

/-- May a text be a scheme? -/
def scL (l : List UInt8) : Bool := !decide (spanN 1 l = 0) && l.all fun x => okS x.toNat

theorem span_head (a : UInt8) (l : List UInt8) : spanN 1 (a :: l) = 0 ↔ isB a.toNat 1 = false := by
  unfold spanN
  cases h : isB a.toNat 1
  · simp [h]
  · simp [h]
theorem all_false (l : List UInt8) (k : Nat) (h : k < l.length) (hx : okS l[k].toNat = false) : (l.all fun x => okS x.toNat) = false := by
  rw [List.all_eq_false]
  exact ⟨l[k], List.getElem_mem h, by rw [hx]; simp⟩

set_option maxHeartbeats 1000000 in
theorem sch_any (s : ByteArray) (w : World) (hs : s.size ≤ maxLen) :
    Calls Try.prog 20 #[.string s] w fun e w' => e = .returned (.bool (scL s.data.toList)) ∧ w' = w := by
  have HSp := hid (fun w => span_any s 1 w hs)
  unfold maxLen at hs
  by_cases h0 : spanN 1 s.data.toList = 0
  · have H : Hid (scL s.data.toList = false) := by show _ = _; unfold scL; rw [h0]; rfl
    rw [h0] at HSp
    clear h0
    go_enter Try.func20, Try.ntmps20
    go_wp2_with (go_at_call 31; refine (HSp.out _).mono ?_; rintro e w' ⟨rfl, rfl⟩)
    go_ret
    exact ⟨ret_bool H.out.symm, rfl⟩
  have HL : Hid (scL s.data.toList = s.data.toList.all fun x => okS x.toNat) := by show _ = _; unfold scL; rw [decide_eq_false h0]; rfl
  have h0' : ((spanN 1 s.data.toList : Int) == 0) = false := by rw [beq_eq_false_iff_ne]; omega
  clear h0
  generalize spanN 1 s.data.toList = n at *
  go_enter Try.func20, Try.ntmps20
  go_wp2_with (go_at_call 31; refine (HSp.out _).mono ?_; rintro e w ⟨rfl, rfl⟩)
  go_loop [9] (fun i => ∃ k : Nat, k ≤ s.size ∧ i = .int .i64 k ∧ Hid (∀ x ∈ s.data.toList.take k, okS x.toNat = true)) (fun i => s.size - (intOf i).toNat)
  case atStart => exact ⟨0, Nat.zero_le _, rfl, (by intro x hx; simp at hx)⟩
  case round =>
    obtain ⟨k, hk, rfl, hin⟩ := hrel
    by_cases hlt : k < s.size
    · have hix := ixI_in (s[k].toNat : Int) [43, 45, 46] (byte_nn _) (byte_le _)
      cases k1 : isB (s[k].toNat : Int) 3
      · cases k2 : inB (s[k].toNat : Int) [43, 45, 46]
        · have hx : okS (s[k].toNat : Int) = false := by unfold okS; rw [k1, k2]; rfl
          have H : Hid (scL s.data.toList = false) := by
            show _ = _; rw [HL.out]
            exact all_false _ k (by rw [len_size]; exact hlt) hx
          have hi : ixI (s[k].toNat : Int) [43, 45, 46] < 0 := by
            rcases Int.lt_or_le (ixI (s[k].toNat : Int) [43, 45, 46]) 0 with h | h
            · exact h
            · exact absurd (hix.1 h) (by first | (rw [k2]; exact Bool.false_ne_true) | exact Bool.false_ne_true)
          clear hix
          go_wp2_with (first | (go_at_call 24; refine (is_any _ _ _).mono ?_; rintro e w' ⟨rfl, rfl⟩) | (go_at_call 25; refine (idx_any _ _ _).mono ?_; rintro e w' ⟨rfl, rfl⟩))
          go_ret
          exact ⟨ret_bool H.out.symm, rfl⟩
        · have hx : okS (s[k].toNat : Int) = true := by unfold okS; rw [k1, k2]; rfl
          have H : Hid (∀ x ∈ s.data.toList.take (k + 1), okS x.toNat = true) := by
            intro x h; rw [take_snoc s k hlt, List.mem_append] at h
            rcases h with h | h
            · exact hin.out x h
            · simp at h; subst h; exact hx
          have hi : ¬ ixI (s[k].toNat : Int) [43, 45, 46] < 0 := by have := hix.2 k2; omega
          clear hix
          go_wp2_with (first | (go_at_call 24; refine (is_any _ _ _).mono ?_; rintro e w' ⟨rfl, rfl⟩) | (go_at_call 25; refine (idx_any _ _ _).mono ?_; rintro e w' ⟨rfl, rfl⟩))
          go_round
          case rel => exact ⟨k + 1, by omega, by go_num, H⟩
          case measure => simp [intOf]; omega
      · have hx : okS (s[k].toNat : Int) = true := by unfold okS; rw [k1]; rfl
        have H : Hid (∀ x ∈ s.data.toList.take (k + 1), okS x.toNat = true) := by
          intro x h; rw [take_snoc s k hlt, List.mem_append] at h
          rcases h with h | h
          · exact hin.out x h
          · simp at h; subst h; exact hx
        clear hix
        go_wp2_with (first | (go_at_call 24; refine (is_any _ _ _).mono ?_; rintro e w' ⟨rfl, rfl⟩))
        go_round
        case rel => exact ⟨k + 1, by omega, by go_num, H⟩
        case measure => simp [intOf]; omega
    · have H : Hid (scL s.data.toList = true) := by
        show _ = _; rw [HL.out, List.all_eq_true]
        intro x hx
        exact hin.out x (by rw [List.take_of_length_le (by rw [len_size]; omega)]; exact hx)
      go_wp2_with fail
      go_ret
      exact ⟨ret_bool H.out.symm, rfl⟩

/-- A letter's class is odd; a letter's or a digit's meets 3. -/
theorem odd_all : ((List.range 256).all fun n => (isB (n : Int) 1 == !((clsI (n : Int)) % 2 == 0)) && (isB (n : Int) 3 == !(bits BinOp.and IntKind.i64 (clsI (n : Int)) 3 == 0))) = true := by decide +kernel
theorem odd_is (c : UInt8) : ((clsI (c.toNat : Int)) % 2 == 0) = !isB (c.toNat : Int) 1 ∧ (bits BinOp.and IntKind.i64 (clsI (c.toNat : Int)) 3 == 0) = !isB (c.toNat : Int) 3 := by
  have := List.all_eq_true.1 odd_all c.toNat (by have := c.toNat_lt; simp; omega)
  simp only [Bool.and_eq_true, beq_iff_eq] at this
  obtain ⟨h1, h2⟩ := this
  rw [h1, h2]; simp
theorem cls_bd (c : UInt8) : 0 ≤ clsI (c.toNat : Int) ∧ clsI (c.toNat : Int) ≤ 34 := by
  unfold clsI
  repeat' split
  all_goals omega

set_option maxHeartbeats 2000000 in
theorem rsch_any (s : ByteArray) (w : World) (hs : s.size ≤ maxLen) :
    Calls Try.prog 21 #[.string s] w fun e w' => e = .returned (.bool (scL s.data.toList)) ∧ w' = w := by
  unfold maxLen at hs
  go_enter Try.func21, Try.ntmps21
  go_wp2
  go_loop [3] (fun i => ∃ k : Nat, k ≤ s.size ∧ i = .int .i64 k ∧ Hid (∀ x ∈ s.data.toList.take k, okS x.toNat = true) ∧ Hid (0 < k → spanN 1 s.data.toList ≠ 0)) (fun i => s.size - (intOf i).toNat)
  case atStart => exact ⟨0, Nat.zero_le _, rfl, (by intro x hx; simp at hx), fun h => absurd h (Nat.lt_irrefl _)⟩
  case round =>
    obtain ⟨k, hk, rfl, hin, hsp⟩ := hrel
    by_cases hlt : k < s.size
    · obtain ⟨o1, o2⟩ := odd_is s[k]
      have hc := cls_bd s[k]
      have HN : Hid (k = 0 → (spanN 1 s.data.toList = 0 ↔ isB (s[k].toNat : Int) 1 = false)) := by
        rintro rfl
        have e : s.data.toList = s[0] :: s.data.toList.drop 1 := by
          have := List.drop_eq_getElem_cons (l := s.data.toList) (i := 0) (by rw [len_size]; exact hlt)
          rwa [List.drop_zero] at this
        rw [e]; exact span_head _ _
      have hfirst : (k == 0 && !isB (s[k].toNat : Int) 1) = true ∨ ((k = 0 → isB (s[k].toNat : Int) 1 = true)) := by
        by_cases hk0 : k = 0
        · cases h : isB (s[k].toNat : Int) 1
          · left; simp [hk0]
          · right; intro _; rfl
        · right; intro h; exact absurd h hk0
      rcases hfirst with hf | hf
      · simp only [Bool.and_eq_true, beq_iff_eq, Bool.not_eq_true'] at hf
        obtain ⟨rfl, hb⟩ := hf
        have H : Hid (scL s.data.toList = false) := by show _ = _; unfold scL; rw [(HN.out rfl).2 hb]; rfl
        rw [hb] at o1
        have o1 : (clsI (s[0].toNat : Int) % 2 == 0) = true := o1
        clear o2 HN
        go_wp2_with (first | (go_at_call 27; refine (rcls_any _ _ (byte_nn _) (byte_le _)).mono ?_; rintro e w' ⟨rfl, rfl⟩))
        go_ret
        exact ⟨ret_bool H.out.symm, rfl⟩
      · have HS2 : Hid (0 < k + 1 → spanN 1 s.data.toList ≠ 0) := by
          intro _ h
          by_cases hk0 : k = 0
          · have h1 := (HN.out hk0).1 h
            rw [hf hk0] at h1; exact absurd h1 (by simp)
          · exact hsp.out (by omega) h
        have hz : (((k : Int) == 0) = true ∧ (clsI (s[k].toNat : Int) % 2 == 0) = false) ∨ ((k : Int) == 0) = false := by
          by_cases hk0 : k = 0
          · left; rw [o1, hf hk0]; simp [hk0]
          · right; rw [beq_eq_false_iff_ne]; omega
        clear hf HN o1
        cases k1 : isB (s[k].toNat : Int) 3
        · rw [k1] at o2
          have o2 : (bits BinOp.and IntKind.i64 (clsI (s[k].toNat : Int)) 3 == 0) = true := o2
          cases k2 : inB (s[k].toNat : Int) [43, 45, 46]
          · have hx : okS (s[k].toNat : Int) = false := by unfold okS; rw [k1, k2]; rfl
            have H : Hid (scL s.data.toList = false) := by
              show _ = _; unfold scL
              rw [all_false _ k (by rw [len_size]; exact hlt) hx, Bool.and_false]
            rcases hz with ⟨hz, hz'⟩ | hz
            all_goals
              go_wp2_with (first | (go_at_call 27; refine (rcls_any _ _ (byte_nn _) (byte_le _)).mono ?_; rintro e w' ⟨rfl, rfl⟩) | (go_at_call 28; refine (in_any _ _ _ (by decide)).mono ?_; rintro e w' ⟨rfl, rfl⟩))
              go_ret
              exact ⟨ret_bool H.out.symm, rfl⟩
          · have hx : okS (s[k].toNat : Int) = true := by unfold okS; rw [k1, k2]; rfl
            have H : Hid (∀ x ∈ s.data.toList.take (k + 1), okS x.toNat = true) := by
              intro x h; rw [take_snoc s k hlt, List.mem_append] at h
              rcases h with h | h
              · exact hin.out x h
              · simp at h; subst h; exact hx
            rcases hz with ⟨hz, hz'⟩ | hz
            all_goals
              go_wp2_with (first | (go_at_call 27; refine (rcls_any _ _ (byte_nn _) (byte_le _)).mono ?_; rintro e w' ⟨rfl, rfl⟩) | (go_at_call 28; refine (in_any _ _ _ (by decide)).mono ?_; rintro e w' ⟨rfl, rfl⟩))
              go_round
              case rel => exact ⟨k + 1, by omega, by go_num, H, HS2⟩
              case measure => simp [intOf]; try omega
        · rw [k1] at o2
          have o2 : (bits BinOp.and IntKind.i64 (clsI (s[k].toNat : Int)) 3 == 0) = false := o2
          have hx : okS (s[k].toNat : Int) = true := by unfold okS; rw [k1]; rfl
          have H : Hid (∀ x ∈ s.data.toList.take (k + 1), okS x.toNat = true) := by
            intro x h; rw [take_snoc s k hlt, List.mem_append] at h
            rcases h with h | h
            · exact hin.out x h
            · simp at h; subst h; exact hx
          rcases hz with ⟨hz, hz'⟩ | hz
          all_goals
            go_wp2_with (first | (go_at_call 27; refine (rcls_any _ _ (byte_nn _) (byte_le _)).mono ?_; rintro e w' ⟨rfl, rfl⟩))
            go_round
            case rel => exact ⟨k + 1, by omega, by go_num, H, HS2⟩
            case measure => simp [intOf]; try omega
    · have H : Hid (scL s.data.toList = decide (0 < s.size)) := by
        show _ = _
        by_cases h0 : 0 < s.size
        · rw [decide_eq_true h0]
          unfold scL
          rw [decide_eq_false (hsp.out (by omega)), Bool.not_false, Bool.true_and, List.all_eq_true]
          intro x hx
          exact hin.out x (by rw [List.take_of_length_le (by rw [len_size]; omega)]; exact hx)
        · rw [decide_eq_false h0]
          have e : s.data.toList = [] := List.eq_nil_of_length_eq_zero (by rw [len_size]; omega)
          rw [e]; rfl
      go_wp2_with fail
      go_ret
      exact ⟨ret_bool (by rw [H.out]), rfl⟩

set_option maxHeartbeats 2000000 in
theorem rsp_any (p : Int) (iri : Bool) (s : ByteArray) (w : World) (hs : s.size ≤ maxLen) :
    Calls Try.prog 18 #[.int .i64 p, .bool iri, .string s] w fun e w' => e = .returned (.int .i64 (spL p iri s.data.toList)) ∧ Below w.heap.size w w' := by
  have HS : Hid (s.size ≤ maxLen) := hs
  have HT := hid (fun (k : Nat) (hk : k ≤ s.size) w => rst_any p iri s k w HS.out hk)
  unfold maxLen at hs
  cases k1 : plcB p
  · have H : Hid (spL p iri s.data.toList = 0) := by show _ = _; unfold spL; rw [k1]; rfl
    rw [k1] at HT
    have hok := Ok.start w
    have H0 := hid (HT.out 0 (Nat.zero_le _))
    clear HT
    by_cases hn : 0 < s.size
    · go_enter Try.func18, Try.ntmps18
      go_wp2
      go_loopw [7] (fun i wr => i = .int .i64 0 ∧ Ok w.heap.size w wr) (fun i _ => 0)
      case atStart => exact ⟨rfl, hok⟩
      case round =>
        obtain ⟨rfl, hok⟩ := hrel
        go_wp2_with (first | (go_at_call 30; refine (H0.out _).mono ?_; rintro e w' ⟨rfl, hb'⟩; replace hok := hok.step hb'; clear hb'))
        go_ret
        exact ⟨ret_int (by rw [H.out]; rfl), hok.1⟩
    · go_enter Try.func18, Try.ntmps18
      go_wp2
      go_loopw [7] (fun i wr => i = .int .i64 0 ∧ Ok w.heap.size w wr) (fun i _ => 0)
      case atStart => exact ⟨rfl, hok⟩
      case round =>
        obtain ⟨rfl, hok⟩ := hrel
        go_wp2_with fail
        go_ret
        exact ⟨ret_int (by rw [H.out]; rfl), hok.1⟩
  have HK : Hid (spL p iri s.data.toList = spF p iri s.data.toList s.size 0) := by show _ = _; unfold spL; rw [if_pos k1, len_size]
  rw [k1] at HT
  clear k1
  go_enter Try.func18, Try.ntmps18
  go_wp2
  go_loopw [7] (fun i wr => ∃ k fuel : Nat, i = .int .i64 k ∧ k ≤ s.size ∧ Ok w.heap.size w wr ∧ s.size ≤ k + fuel ∧ Hid (spF p iri s.data.toList fuel k = spL p iri s.data.toList)) (fun i _ => s.size - (intOf i).toNat)
  case atStart => exact ⟨0, s.size, rfl, by omega, Ok.start w, by omega, HK.out.symm⟩
  case round =>
    obtain ⟨k, fuel, rfl, hks, hok, hfu, hF⟩ := hrel
    have HD : Hid (∀ w, Calls Try.prog 30 #[.int .i64 p, .bool iri, .string s, .int .i64 k] w fun e w' => e = .returned (.int .i64 (stN p iri (s.data.toList.drop k) : Nat)) ∧ Below w.heap.size w w') := hid (fun w => by have := HT.out k hks w; rwa [if_pos trivial] at this)
    by_cases hp : k < s.size
    · obtain ⟨f, rfl⟩ : ∃ f, fuel = f + 1 := ⟨fuel - 1, by omega⟩
      have hF2 := hF.out
      have hle := stN_le p iri (s.data.toList.drop k)
      rw [List.length_drop, len_size] at hle
      by_cases h0 : stN p iri (s.data.toList.drop k) = 0
      · rw [spF_end _ _ _ _ _ h0] at hF2
        rw [h0] at HD
        have H2 := hid hF2
        clear hF2 h0 hF hle
        go_wp2_with (first | (go_at_call 30; refine (HD.out _).mono ?_; rintro e w' ⟨rfl, hb'⟩; replace hok := hok.step hb'; clear hb'))
        go_ret
        exact ⟨ret_int (by rw [H2.out]), hok.1⟩
      · simp only [spF] at hF2
        rw [if_neg h0] at hF2
        have H2 := hid hF2
        clear hF2 hF
        generalize stN p iri (s.data.toList.drop k) = m at *
        have h0' : (0 : Int) < (m : Int) := by omega
        go_wp2_with (first | (go_at_call 30; refine (HD.out _).mono ?_; rintro e w' ⟨rfl, hb'⟩; replace hok := hok.step hb'; clear hb'))
        go_roundw
        case rel => exact ⟨k + m, f, by go_num, by omega, hok, by omega, H2⟩
        case measure => simp [intOf]; try omega
    · have H2 : Hid ((k : Int) = spL p iri s.data.toList) := by
        show _ = _; rw [← hF.out, spF_end]
        rw [List.drop_of_length_le (by rw [len_size]; omega)]; exact stN_nil _ _
      clear hF HD
      go_wp2_with fail
      go_ret
      exact ⟨ret_int H2.out, hok.1⟩
end Le
end Go.Proofs.Yteimhepmcjdbpaa
