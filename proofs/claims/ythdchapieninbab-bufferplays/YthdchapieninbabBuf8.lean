import Derived.Test.YthdchapieninbabBuf6
namespace Go.Proofs.Ythdchapieninbab
open Go.RowKit

theorem app_list (a b : ByteArray) : (a ++ b).data.toList = a.data.toList ++ b.data.toList := by simp
theorem mk_toList (s : ByteArray) : (⟨s.data.toList.toArray⟩ : ByteArray) = s := by simp

theorem rput_no (x s : ByteArray) (room : Nat) (full : Bool) (w : World) (h : full = true ∨ room < x.size + s.size) (hx : x.size ≤ 1048576) (hs : s.size ≤ 1000) :
    Calls Try.prog 15 #[.agg #[.string x, .int .i64 room, .bool full], .string s] w fun e w' => e = .returned (.tuple #[.agg #[.string x, .int .i64 room, .bool true], .bool false]) ∧ Below w.heap.size w w' := by
  cases full
  · have h1 : room < x.size + s.size := by simpa using h
    have h' : (room : Int) < (x.size : Int) + (s.size : Int) := by omega
    clear h
    go_enter Try.func15, Try.ntmps15
    go_wp2
    exact bodyPost_ret (v := .tuple #[.agg #[.string x, .int .i64 room, .bool true], .bool false]) (by simp [results, Try.results15, go_sem]) rfl ⟨rfl, ((Below.refl _ _).alloc (Nat.le_refl _) _).alloc (by simp) _⟩
  · clear h
    go_enter Try.func15, Try.ntmps15
    go_wp2
    exact bodyPost_ret (v := .tuple #[.agg #[.string x, .int .i64 room, .bool true], .bool false]) (by simp [results, Try.results15, go_sem]) rfl ⟨rfl, ((Below.refl _ _).alloc (Nat.le_refl _) _).alloc (by simp) _⟩

theorem rput_yes (x s : ByteArray) (room : Nat) (w : World) (h : x.size + s.size ≤ room) (hx : x.size ≤ 1048576) (hs : s.size ≤ 1000) :
    Calls Try.prog 15 #[.agg #[.string x, .int .i64 room, .bool false], .string s] w fun e w' => e = .returned (.tuple #[.agg #[.string (x ++ s), .int .i64 room, .bool false], .bool true]) ∧ Below w.heap.size w w' := by
  have h' : ¬ (room : Int) < (x.size : Int) + (s.size : Int) := by omega
  go_enter Try.func15, Try.ntmps15
  go_wp2
  exact bodyPost_ret (v := .tuple #[.agg #[.string (x ++ s), .int .i64 room, .bool false], .bool true]) (by simp [results, Try.results15, go_sem]) rfl ⟨rfl, ((Below.refl _ _).alloc (Nat.le_refl _) _).alloc (by simp) _⟩

theorem getD_at (s : ByteArray) (k : Nat) (h : k < s.size) : s.data.toList.getD k 0 = s[k] := by
  rw [List.getD_eq_getElem?_getD, List.getElem?_eq_getElem (by simpa using h)]; rfl

set_option maxHeartbeats 400000 in
theorem rback_any (s : ByteArray) (c : Int) (w : World) (hs : s.size ≤ maxLen) :
    Calls Try.prog 21 #[.string s, .int .u8 c] w fun e w' => e = .returned (.int .i64 (backI s.data.toList c)) ∧ w' = w := by
  unfold maxLen at hs
  go_enter Try.func21, Try.ntmps21
  go_wp2
  go_loop [5, 6] (fun at_ i => ∃ k : Nat, k ≤ s.size ∧ i = .int .i64 k ∧ at_ = .int .i64 (backTo s.data.toList c k)) (fun _ i => s.size - (intOf i).toNat)
  case atStart => exact ⟨0, Nat.zero_le _, rfl, rfl⟩
  case round =>
    obtain ⟨k, hk, rfl, rfl⟩ := hrel
    by_cases hlt : k < s.size
    · have hg := getD_at s k hlt
      by_cases hx : ((s[k].toNat : Int) == c) = true
      · have H : Hid (backTo s.data.toList c (k + 1) = (k : Int)) := by
          show _ = _
          unfold backTo; rw [hg, if_pos (beq_iff_eq.1 hx)]
        clear hg
        generalize backTo s.data.toList c k = v at *
        go_wp2
        go_round
        case rel => exact ⟨k + 1, by omega, by go_num, by rw [H.out]⟩
        case measure => simp [intOf]; omega
      · have hx' : ((s[k].toNat : Int) == c) = false := by simpa using hx
        have H : Hid (backTo s.data.toList c (k + 1) = backTo s.data.toList c k) := by
          show _ = _
          conv => lhs; unfold backTo
          rw [hg, if_neg (beq_eq_false_iff_ne.1 hx')]
        clear hg hx
        generalize backTo s.data.toList c k = v at *
        go_wp2
        go_round
        case rel => exact ⟨k + 1, by omega, by go_num, by rw [H.out]⟩
        case measure => simp [intOf]; omega
    · have H : Hid (backI s.data.toList c = backTo s.data.toList c k) := by
        show _ = _
        unfold backI; rw [len_size]; congr 1; omega
      generalize backTo s.data.toList c k = v at *
      go_wp2
      go_ret
      exact ⟨ret_int H.out.symm, rfl⟩

section
variable {B b room : Nat} {full : Bool} {w : World} {s : ByteArray}

theorem leftI_no (l : List UInt8) (room : Nat) : leftI l room true = 0 := rfl
theorem leftI_s (s : ByteArray) (room : Nat) : leftI s.data.toList room false = (room : Int) - (s.size : Int) := by unfold leftI; rw [len_size]; rfl

theorem text_s (h : Buf B b s.data.toList room full w) : Calls Try.prog 12 #[.pointer (some ⟨b, 0, none⟩)] w fun e w' => e = .returned (.string s) ∧ w' = w := by
  have := text_any h
  rw [mk_toList] at this; exact this
theorem len_s (h : Buf B b s.data.toList room full w) : Calls Try.prog 10 #[.pointer (some ⟨b, 0, none⟩)] w fun e w' => e = .returned (.int .i64 s.size) ∧ w' = w := by
  have := len_any h
  rw [len_size] at this; exact this

set_option maxHeartbeats 1000000 in
theorem is_any (c : Int) (h : Buf B b s.data.toList room full w) :
    Calls Try.prog 9 #[.pointer (some ⟨b, 0, none⟩), .agg #[.string s, .int .i64 room, .bool full], .int .u8 c] w fun e w' => e = .returned (.bool true) ∧ Below w.heap.size w w' := by
  have hf := h.fits
  rw [len_size] at hf
  have hB : Buf B b s.data.toList room full (w.alloc (.cells #[.string s, .int .i64 room, .bool full] 29)) := h.alloc _
  have HL := hid (last_bel hB)
  have hr : (room : Int) ≤ 1048576 := by omega
  have hsi : (s.size : Int) ≤ (room : Int) := by omega
  have hsm : Hid (s.size ≤ maxLen) := by show _ ≤ _; unfold maxLen; omega
  have CE := hid (fun (w1 : World) (hb : Below (w.alloc (.cells #[.string s, .int .i64 room, .bool full] 29)).heap.size (w.alloc (.cells #[.string s, .int .i64 room, .bool full] 29)) w1) =>
    have c : ∀ o, w1.cell? ⟨w.heap.size, o, none⟩ = (w.alloc (.cells #[.string s, .int .i64 room, .bool full] 29)).cell? ⟨w.heap.size, o, none⟩ := fun o => hb.cell (p := ⟨w.heap.size, o, none⟩) (by simp)
    show w1.cell? ⟨w.heap.size, 0, none⟩ = some (.string s) ∧ w1.cell? ⟨w.heap.size, 1, none⟩ = some (.int .i64 room) ∧ w1.cell? ⟨w.heap.size, 2, none⟩ = some (.bool full) ∧ Buf B b s.data.toList room full w1 ∧ Below w.heap.size w w1 from
      ⟨(c 0).trans (by rw [World.cell?_alloc_new]; rfl), (c 1).trans (by rw [World.cell?_alloc_new]; rfl), (c 2).trans (by rw [World.cell?_alloc_new]; rfl), hB.step hb, ((Below.refl _ _).alloc (Nat.le_refl _) _).trans (hb.mono (by simp))⟩)
  clear hB h
  rw [len_size] at HL
  have key : (s.size = 0 ∧ Hid (lastI s.data.toList = 0) ∧ Hid ((s.size != 0) = false)) ∨ ∃ k, ∃ hk : k < s.size, s.size = k + 1 ∧ Hid (lastI s.data.toList = (s[k].toNat : Int)) ∧ Hid ((s.size != 0) = true) := by
    by_cases h0 : s.size = 0
    · refine .inl ⟨h0, ?_, by show _ = _; rw [h0]; rfl⟩
      have : s.data.toList = [] := List.eq_nil_of_length_eq_zero (by rw [len_size]; exact h0)
      show _ = _; rw [this]; rfl
    · refine .inr ⟨s.size - 1, by omega, by omega, lastI_at _ _ (by rw [len_size]; omega), ?_⟩
      show _ = _; rw [bne_iff_ne]; exact h0
  rcases key with ⟨h0, k1, k2⟩ | ⟨k, hk, hke, k1, k2⟩
  · rw [k1.out, k2.out] at HL
    have h0' : (s.size : Int) = 0 := by omega
    have h0n : ¬ (0 : Int) < (s.size : Int) := by omega
    clear h0 k1 k2
    cases full
    all_goals
      go_enter Try.func9, Try.ntmps9
      go_wp2_with fail
      refine HL.out.mono ?_
      rintro e w1 ⟨rfl, hb1⟩
      obtain ⟨c0, c1, c2, hB, hbel⟩ := CE.out w1 hb1
      have HB := hid hB
      have HLL := hid (fun n => left_any (w := w1.drewN n) (hB.same rfl))
      have HK := hid (fun n => back_any c (w := w1.drewN n) (hB.same rfl))
      have HR := hid (fun n => rback_any s c (w1.drewN n) hsm.out)
      first | rw [leftI_s] at HLL | rw [leftI_no] at HLL
      generalize backI s.data.toList c = bk at *
      clear hb1 CE hB HL
      go_wp2_with fail
      go_quiet ((first | (go_at_call 12; exact Calls.quiet_of_same (text_s (HB.out.same rfl))) | (go_at_call 10; exact Calls.quiet_of_same (len_s (HB.out.same rfl))) | (go_at_call 14; exact Calls.quiet_of (HLL.out _)) | (go_at_call 13; exact Calls.quiet_of_same (full_any (HB.out.same rfl))) | (go_at_call 20; exact Calls.quiet_of_same (HK.out _)) | (go_at_call 21; exact Calls.quiet_of_same (HR.out _))))
      go_wp2
      go_ret
      exact ⟨rfl, below_drewN hbel _⟩
  · rw [k1.out, k2.out] at HL
    have hki : (s.size : Int) = (k : Int) + 1 := by omega
    have hkn : (s.size : Int) - 1 = (k : Int) := by omega
    have h0n : (0 : Int) < (s.size : Int) := by omega
    clear hke k1 k2
    cases full
    all_goals
      go_enter Try.func9, Try.ntmps9
      go_wp2_with fail
      refine HL.out.mono ?_
      rintro e w1 ⟨rfl, hb1⟩
      obtain ⟨c0, c1, c2, hB, hbel⟩ := CE.out w1 hb1
      have HB := hid hB
      have HLL := hid (fun n => left_any (w := w1.drewN n) (hB.same rfl))
      have HK := hid (fun n => back_any c (w := w1.drewN n) (hB.same rfl))
      have HR := hid (fun n => rback_any s c (w1.drewN n) hsm.out)
      first | rw [leftI_s] at HLL | rw [leftI_no] at HLL
      generalize backI s.data.toList c = bk at *
      clear hb1 CE hB HL
      go_wp2_with fail
      go_quiet ((first | (go_at_call 12; exact Calls.quiet_of_same (text_s (HB.out.same rfl))) | (go_at_call 10; exact Calls.quiet_of_same (len_s (HB.out.same rfl))) | (go_at_call 14; exact Calls.quiet_of (HLL.out _)) | (go_at_call 13; exact Calls.quiet_of_same (full_any (HB.out.same rfl))) | (go_at_call 20; exact Calls.quiet_of_same (HK.out _)) | (go_at_call 21; exact Calls.quiet_of_same (HR.out _))))
      go_wp2
      go_ret
      exact ⟨rfl, below_drewN hbel _⟩
end
end Go.Proofs.Ythdchapieninbab
