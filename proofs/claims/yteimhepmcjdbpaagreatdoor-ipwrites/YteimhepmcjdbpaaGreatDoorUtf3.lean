import Derived.Test.YteimhepmcjdbpaaGreatDoorUtf2
namespace Go.Proofs.YteimhepmcjdbpaaGreatDoor
open Go.RowKit

theorem fit_le (l : List UInt8) (h : l ≠ []) : fit l ≤ l.length := by
  obtain ⟨f1, f4, fg, fn⟩ := fit_spec l
  by_cases h1 : fit l = 1
  · rw [h1]; cases l with | nil => exact absurd rfl h | cons a b => simp
  · have g := fg (fit l - 1) (by omega) (by omega)
    unfold goOn at g; omega

theorem drop_ne (s : ByteArray) (i : Nat) (h : i < s.size) : s.data.toList.drop i ≠ [] := by
  intro e; have := congrArg List.length e; simp at this; omega

theorem fault_at (s : ByteArray) (i : Nat) (w : World) (h : i < s.size) :
    Calls Tryz.prog 105 #[.string s, .int .i64 i, .int .i32 ((Utf8.decode s i).1 : Nat)] w fun e w' => e = .returned (.bool (!okL (s.data.toList.drop i))) ∧ w' = w := by
  rw [decode_eq s i h]
  by_cases ho : okL (s.data.toList.drop i) = true
  · obtain ⟨_, _, _, hsg⟩ := ok_facts _ ho
    rw [if_pos ho, ho]
    by_cases hv : valL (s.data.toList.drop i) = 65533
    · have := fault_is s i w (by omega)
      rw [hsg hv] at this
      rw [hv]; exact this
    · exact fault_no s i _ w (by simp only; omega)
  · have ho' : okL (s.data.toList.drop i) = false := by simpa using ho
    have hs : signB (s.data.toList.drop i) = false := by
      cases e : signB (s.data.toList.drop i) with
      | false => rfl
      | true => exact absurd (sign_ok _ e) ho
    rw [if_neg ho, ho']
    have := fault_is s i w (by omega)
    rw [hs] at this
    exact this

theorem ret_three {a b c d e f : Value} (h : a = b) (h' : c = d) (h'' : e = f) : Ending.returned (.tuple #[a, c, e]) = .returned (.tuple #[b, d, f]) := by rw [h, h', h'']

theorem encS_size (l : List UInt8) (h : okL l = true) : (encS (valL l)).size = fit l := by
  obtain ⟨a, b, c, _⟩ := ok_facts l h
  unfold encS; rw [if_pos a]
  generalize Utf8.encode (valL l) = x at *
  have := congrArg List.length b
  rw [len_size, List.length_take] at this
  omega

set_option maxHeartbeats 1000000 in
theorem dec_any (s : ByteArray) (w : World) :
    Calls Tryz.prog 88 #[.string s] w fun e w' => e = .returned (.tuple #[.int .i32 (decR s.data.toList), .int .i64 (decN s.data.toList), .bool (okL s.data.toList)]) ∧ Below w.heap.size w w' := by
  have hb0 : Below w.heap.size w (w.iter s 0) := (Below.refl _ _).alloc (Nat.le_refl _) _
  by_cases h0 : 0 < s.size
  · have hne := drop_ne s 0 h0
    rw [List.drop_zero] at hne
    have hd := decode_eq s 0 h0
    have hfa := fun w => fault_at s 0 w h0
    rw [List.drop_zero] at hd hfa
    have hN : Hid (decN s.data.toList = fit s.data.toList) := by show _ = _; unfold decN; rw [if_neg hne]
    have hnx : ∀ ty, (Instr.next (.pointer (some ⟨w.heap.size, 0, none⟩)) true ty).run Tryz.prog (w.iter s 0) = _ := fun ty => Lib.run_next_any_at (w.iter s 0) w.heap.size s 0 ty (World.iter_heap w s 0) h0
    have hb1 := Lib.below_iterAt hb0 (Nat.le_refl _) s (0 + (Utf8.decode s 0).2)
    generalize (w.iter s 0).iterAt w.heap.size s (0 + (Utf8.decode s 0).2) = W1 at *
    have hok : Ok w.heap.size w W1 := ⟨hb1, Nat.le_trans (by simp) hb1.size⟩
    by_cases ho : okL s.data.toList = true
    · have hR : Hid (decR s.data.toList = valL s.data.toList) := by show _ = _; unfold decR; rw [if_pos ho]
      have hE : Hid ((encS (valL s.data.toList)).size = fit s.data.toList) := encS_size _ ho
      rw [if_pos ho] at hd
      rw [hd] at hnx
      rw [hd, ho] at hfa
      have HF : Hid (∀ w, Calls Tryz.prog 105 #[.string s, .int .i64 0, .int .i32 (valL s.data.toList)] w fun e w' => e = .returned (.bool false) ∧ w' = w) := hfa
      have HO : Hid (okL s.data.toList = true) := ho
      clear hfa hd ho
      go_enter Tryz.func88, Tryz.ntmps88
      go_wp2
      go_loopw [] (fun wr => wr = w.iter s 0) (fun _ => 0)
      case atStart => rfl
      case round =>
        subst hrel
        go_wp2_with (first | (go_at_call 105; refine (HF.out _).mono ?_; rintro e w' ⟨rfl, rfl⟩) | (go_at_call 107; refine (enc_any _ _).mono ?_; rintro e w' ⟨rfl, rfl⟩))
        go_ret3
        exact ⟨ret_three (int_eq (by rw [hR.out])) (int_eq (by rw [hN.out, hE.out])) (by rw [HO.out]; rfl), hok.1⟩
    · have ho' : okL s.data.toList = false := by simpa using ho
      have hR : Hid (decR s.data.toList = 0) := by show _ = _; unfold decR; rw [if_neg ho]
      rw [if_neg ho] at hd
      rw [hd] at hnx
      rw [hd, ho'] at hfa
      have HF : Hid (∀ w, Calls Tryz.prog 105 #[.string s, .int .i64 0, .int .i32 65533] w fun e w' => e = .returned (.bool true) ∧ w' = w) := hfa
      have HO : Hid (okL s.data.toList = false) := ho'
      clear hfa hd ho ho'
      go_enter Tryz.func88, Tryz.ntmps88
      go_wp2
      go_loopw [] (fun wr => wr = w.iter s 0) (fun _ => 0)
      case atStart => rfl
      case round =>
        subst hrel
        go_wp2_with (first | (go_at_call 105; refine (HF.out _).mono ?_; rintro e w' ⟨rfl, rfl⟩) | (go_at_call 106; refine (fsize_any _ _ h0).mono ?_; rintro e w' ⟨rfl, hb'⟩; replace hok := hok.step hb'; clear hb'))
        go_ret3
        exact ⟨ret_three (int_eq (by rw [hR.out]; rfl)) (int_eq (by rw [hN.out])) (by rw [HO.out]; rfl), hok.1⟩
  · have hl : s.data.toList = [] := List.eq_nil_of_length_eq_zero (by rw [len_size]; omega)
    have hR : Hid (decR s.data.toList = 0) := by rw [hl]; rfl
    have hN : Hid (decN s.data.toList = 0) := by rw [hl]; rfl
    have HO : Hid (okL s.data.toList = false) := by rw [hl]; rfl
    have hnx : ∀ ty, (Instr.next (.pointer (some ⟨w.heap.size, 0, none⟩)) true ty).run Tryz.prog (w.iter s 0) = _ := fun ty => Lib.run_next_end_at (w.iter s 0) w.heap.size s 0 ty (World.iter_heap w s 0) h0
    clear hl
    go_enter Tryz.func88, Tryz.ntmps88
    go_wp2
    go_loopw [] (fun wr => wr = w.iter s 0) (fun _ => 0)
    case atStart => rfl
    case round =>
      subst hrel
      go_wp2_with fail
      go_ret3
      exact ⟨ret_three (int_eq (by rw [hR.out]; rfl)) (int_eq (by rw [hN.out]; rfl)) (by rw [HO.out]; rfl), hb0⟩

/-- The first place from 'at' on at which no scalar value begins; -1: there is none. -/
def faultF (l : List UInt8) : Nat → Nat → Int
  | 0, _ => -1
  | f + 1, i => if i < l.length then (if okL (l.drop i) then faultF l f (i + fit (l.drop i)) else i) else -1
def faultL (l : List UInt8) : Int := faultF l l.length 0

theorem faultF_end (l : List UInt8) (f i : Nat) (h : ¬ i < l.length) : faultF l f i = -1 := by
  cases f with
  | zero => rfl
  | succ f => simp [faultF, h]

/-- An iterator stands at a place. -/
def It (B : Nat) (W0 : World) (s : ByteArray) (pos : Nat) (w : World) : Prop := w.heap[B]? = some (.stringIter s pos) ∧ Below B W0 w
theorem It.start (w : World) (s : ByteArray) : It w.heap.size w s 0 (w.iter s 0) := ⟨World.iter_heap w s 0, (Below.refl _ _).alloc (Nat.le_refl _) _⟩
theorem It.next {B : Nat} {W0 w : World} {s : ByteArray} {pos : Nat} (h : It B W0 s pos w) (p : Nat) : It B W0 s p (w.iterAt B s p) := ⟨Lib.iterAt_heap w B s pos p h.1, Lib.below_iterAt h.2 (Nat.le_refl _) s p⟩
theorem It.step {B : Nat} {W0 w w' : World} {s : ByteArray} {pos : Nat} (h : It B W0 s pos w) (h' : Below w.heap.size w w') : It B W0 s pos w' := by
  have hlt : B < w.heap.size := (Array.getElem?_eq_some_iff.1 h.1).1
  exact ⟨(h'.block B hlt).trans h.1, h.2.trans (h'.mono (by omega))⟩


end Go.Proofs.YteimhepmcjdbpaaGreatDoor
