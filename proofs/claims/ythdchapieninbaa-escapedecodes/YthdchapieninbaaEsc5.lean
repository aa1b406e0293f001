import Derived.Test.YthdchapieninbaaEsc4
import Derived.Test.YthdchapieninbaaWr
namespace Go.Proofs.Ythdchapieninbaa
open Go.RowKit

section
variable {B b : Nat} {l : List UInt8} {w : World}

theorem bat_step {p : Value} {bs : List Value} {w' : World} (h : Lib.BuilderAtF 37 5 B b p bs w) (hb : Below w.heap.size w w') : Lib.BuilderAtF 37 5 B b p bs w' := by
  obtain ⟨hB, v, hbk, hown, hne⟩ := h
  refine ⟨hB, v, (hb.block b (Array.getElem?_eq_some_iff.1 hbk).1).trans hbk, ⟨hown.1, ?_⟩, hne⟩
  rcases hown.2 with h | ⟨g, cap, cur, fz, e, h1, h2, h3⟩
  · exact .inl h
  · exact .inr ⟨g, cap, cur, fz, e, h1, (hb.block g (Array.getElem?_eq_some_iff.1 h2).1).trans h2, h3⟩
theorem Bu.step {w' : World} (h : Bu B b l w) (hb : Below w.heap.size w w') : Bu B b l w' := by
  rcases h with h | h
  · exact .inl (bat_step h hb)
  · exact .inr (bat_step h hb)
theorem Bu.alloc (h : Bu B b l w) (o : Obj) : Bu B b l (w.alloc o) := h.step ((Below.refl _ _).alloc (Nat.le_refl _) _)
theorem Bu.new (w : World) (B : Nat) (hB : B ≤ w.heap.size) : Bu B w.heap.size [] (w.alloc (.cells #[.pointer none, .slice none 0 0] 37)) :=
  .inl ⟨hB, _, heap_alloc_new w _, World.ownsRowF_nil _ _ _ _, by simp [Value.ownBlock]⟩
theorem Bu.lt (h : Bu B b l w) : b < w.heap.size := by rcases h with h | h <;> exact h.lt
theorem Bu.above (h : Bu B b l w) : B ≤ b := by rcases h with h | h <;> exact h.1

theorem bstr_bu (h : Bu B b l w) (hB : B ≤ w.heap.size) : Calls Try.prog 23 #[.pointer (some ⟨b, 0, none⟩)] w fun e w' => e = .returned (.string ⟨l.toArray⟩) ∧ Turn B b w w' :=
  (bstr_any B b l w h hB).mono fun _ _ ⟨h1, _, h3, h4⟩ => ⟨h1, h3, h4⟩
end

set_option maxHeartbeats 1000000 in
theorem enc_any (s : ByteArray) (cl : Int) (w : World) (hs : s.size ≤ 1000000) :
    Calls Try.prog 8 #[.string s, .int .i64 cl] w fun e w' => e = .returned (.string ⟨(encL cl s.data.toList).toArray⟩) ∧ Below w.heap.size w w' := by
  have HN := hid (Bu.new w w.heap.size (Nat.le_refl _))
  go_enter Try.func8, Try.ntmps8
  go_wp2
  go_loopw [9] (fun i wr => ∃ (k : Nat) (l : List UInt8), k ≤ s.size ∧ i = .int .i64 k ∧ Ok w.heap.size w wr ∧ Bu w.heap.size w.heap.size l wr ∧ l.length ≤ 3 * k ∧ Hid (l ++ encL cl (s.data.toList.drop k) = encL cl s.data.toList)) (fun i _ => s.size - (intOf i).toNat)
  case atStart => exact ⟨0, [], Nat.zero_le _, rfl, (Ok.start w).alloc, HN.out, Nat.zero_le _, rfl⟩
  case round =>
    obtain ⟨k, l, hk, rfl, hok, hB, hos, hin⟩ := hrel
    clear HN
    by_cases hlt : k < s.size
    · have h1 := hin.out
      rw [drop1 s k hlt] at h1
      simp only [encL] at h1
      by_cases hx : isB (s[k].toNat : Int) cl = true
      · rw [if_pos hx, ← List.append_assoc] at h1
        have H := hid h1
        have HW := hid (fun (W : World) (h : Bu w.heap.size w.heap.size l W) (hB : w.heap.size ≤ W.heap.size) => wbyte_any s[k] h hB (by omega))
        clear h1 hin
        go_wp2_with (first | (go_at_call 20; refine (is_any _ _ _).mono ?_; rintro e w' ⟨rfl, rfl⟩) | (go_at_call 21; refine (HW.out _ hB hok.2).mono ?_; rintro e w' ⟨rfl, hB2, ht⟩))
        go_roundw
        case rel => exact ⟨k + 1, _, by omega, by go_num, ⟨hok.1.trans ht.1, Nat.le_trans hok.2 ht.1.size⟩, hB2, by rw [List.length_append]; simp; omega, H⟩
        case measure => simp [intOf]; omega
      · have hx2 : isB (s[k].toNat : Int) cl = false := by simpa using hx
        rw [if_neg hx, ← List.append_assoc] at h1
        have H := hid h1
        have HO := hid (fun w => of_any s[k] w)
        have HW := hid (fun (W : World) (h : Bu w.heap.size w.heap.size l W) (hB : w.heap.size ≤ W.heap.size) => wstr_any ⟨(ofU s[k]).toArray⟩ h hB (by show l.length + 3 ≤ _; omega))
        generalize hr : (⟨(ofU s[k]).toArray⟩ : ByteArray) = r at *
        have HR : Hid (r.data.toList = ofU s[k]) := by show _ = _; rw [← hr]
        clear h1 hin hr
        go_wp2_with (first | (go_at_call 20; refine (is_any _ _ _).mono ?_; rintro e w' ⟨rfl, rfl⟩) | (go_at_call 16; refine (HO.out _).mono ?_; rintro e w' ⟨rfl, hb'⟩; replace hok := hok.step hb'; replace hB := hB.step hb'; clear hb') | (go_at_call 22; refine (HW.out _ hB hok.2).mono ?_; rintro e w' ⟨rfl, hB2, ht⟩))
        go_roundw
        case rel =>
          rw [HR.out] at hB2
          exact ⟨k + 1, _, by omega, by go_num, ⟨hok.1.trans ht.1, Nat.le_trans hok.2 ht.1.size⟩, hB2, by rw [List.length_append]; show _ + 3 ≤ _; omega, H⟩
        case measure => simp [intOf]; omega
    · have H : Hid (l = encL cl s.data.toList) := by
        have h1 := hin.out
        rw [drop_end s k (by omega)] at h1
        show _ = _; simpa [encL] using h1
      clear hin
      go_wp2_with (first | (go_at_call 23; refine (bstr_bu hB hok.2).mono ?_; rintro e w' ⟨rfl, ht⟩))
      go_ret
      exact ⟨ret_string (by rw [H.out]), hok.1.trans ht.1⟩
end Go.Proofs.Ythdchapieninbaa
