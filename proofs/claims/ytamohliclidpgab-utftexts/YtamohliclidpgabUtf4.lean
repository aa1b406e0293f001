import Derived.Test.YtamohliclidpgabUtf3
namespace Go.Proofs.Ytamohliclidpgab
open Go.RowKit

/-- How many scalar values and faults there are from a place on. -/
def countF (l : List UInt8) : Nat → Nat → Nat
  | 0, _ => 0
  | f + 1, i => if i < l.length then 1 + countF l f (i + fit (l.drop i)) else 0
def countL (l : List UInt8) : Nat := countF l l.length 0

theorem countF_end (l : List UInt8) (f i : Nat) (h : ¬ i < l.length) : countF l f i = 0 := by
  cases f with
  | zero => rfl
  | succ f => simp [countF, h]

theorem countF_le (l : List UInt8) : ∀ f i, i ≤ l.length → countF l f i ≤ l.length - i
  | 0, i, _ => by simp [countF]
  | f + 1, i, hi => by
    unfold countF
    split
    · rename_i h
      have hne : l.drop i ≠ [] := by intro e; have := congrArg List.length e; simp at this; omega
      have h1 := (fit_spec (l.drop i)).1
      have h2 := fit_le (l.drop i) hne
      simp at h2
      have := countF_le l f (i + fit (l.drop i)) (by omega)
      omega
    · omega

theorem bt_drop (l : List UInt8) (i j : Nat) : bt (l.drop i) j = bt l (i + j) := by
  unfold bt; rw [List.getD_eq_getElem?_getD, List.getD_eq_getElem?_getD, List.getElem?_drop]

theorem goOn_cont (l : List UInt8) (j : Nat) (h1 : 1 ≤ j) (h : goOn l j) : 128 ≤ bt l j ∧ bt l j ≤ 191 := by
  unfold goOn at h
  rcases rowB_cases (bt l 0) (bt_lt l 0) with ⟨c, e⟩ | ⟨c, c', e⟩ | ⟨c, e⟩ | ⟨c, c', e⟩ | ⟨c, e⟩ | ⟨c, c', e⟩ | ⟨c, e⟩ | ⟨c, c', e⟩ | ⟨c, e⟩ | ⟨c, e⟩
  all_goals
    rw [e] at h
    simp only at h
    obtain ⟨a, _, b, d⟩ := h
    split at b <;> split at d <;> omega

theorem cont_bad (l : List UInt8) (h : 128 ≤ bt l 0 ∧ bt l 0 ≤ 191) : okL l = false := by
  cases e : okL l with
  | false => rfl
  | true =>
    have := ((okL_iff l).1 e).2
    have f1 := (fit_spec l).1
    have r : rowB (bt l 0) = (0, 0, 0) := by
      rcases rowB_cases (bt l 0) (bt_lt l 0) with ⟨c, e⟩ | ⟨c, c', e⟩ | ⟨c, e⟩ | ⟨c, c', e⟩ | ⟨c, e⟩ | ⟨c, c', e⟩ | ⟨c, e⟩ | ⟨c, c', e⟩ | ⟨c, e⟩ | ⟨c, e⟩ <;> first | exact e | omega
    rw [r] at this; simp at this; omega

set_option maxHeartbeats 2000000 in
theorem cnt_any (s : ByteArray) (w : World) (hs : s.size ≤ maxLen) :
    Calls Try.prog 26 #[.string s] w fun e w' => e = .returned (.int .i64 (countL s.data.toList)) ∧ Below w.heap.size w w' := by
  unfold maxLen at hs
  go_enter Try.func26, Try.ntmps26
  go_wp2
  go_loopw [3, 4] (fun a b wr => ∃ n nx pos fuel : Nat, a = .int .i64 n ∧ b = .int .i64 nx ∧ It w.heap.size w s pos wr ∧ pos ≤ s.size ∧ nx ≤ s.size ∧ n ≤ pos ∧ s.size ≤ max pos nx + fuel ∧ Hid (n + countF s.data.toList fuel (max pos nx) = countL s.data.toList) ∧ Hid (∀ j, pos ≤ j → j < nx → 128 ≤ bt s.data.toList j ∧ bt s.data.toList j ≤ 191)) (fun _ _ wr => s.size - wr.iterPos w.heap.size)
  case atStart => exact ⟨0, 0, 0, s.size, rfl, rfl, It.start w s, by omega, by omega, by omega, by omega, by show _ = _; unfold countL; rw [len_size]; simp, fun j a b => by omega⟩
  case round =>
    obtain ⟨n, nx, pos, fuel, rfl, rfl, hit, hps, hns, hnp, hfu, hC, hI⟩ := hrel
    by_cases hp : pos < s.size
    · have hnx : ∀ ty, (Instr.next (.pointer (some ⟨w.heap.size, 0, none⟩)) true ty).run Try.prog wr = _ := fun ty => Lib.run_next_any_at wr w.heap.size s pos ty hit.1 hp
      have hd := decode_eq s pos hp
      have hfa := fun w => fault_at s pos w hp
      have hit2 := hit.next (pos + (Utf8.decode s pos).2)
      have hm : s.size - wr.iterPos w.heap.size = s.size - pos := by simp [World.iterPos, hit.1]
      have HM : Hid (s.size - wr.iterPos w.heap.size = s.size - pos) := hm
      have f1 := (fit_spec (s.data.toList.drop pos)).1
      have f2 := fit_le _ (drop_ne s pos hp)
      rw [List.length_drop, len_size] at f2
      clear hm
      by_cases hin : pos < nx
      · have hbad := cont_bad (s.data.toList.drop pos) (by rw [bt_drop]; exact hI.out pos (Nat.le_refl _) hin)
        rw [hbad, if_neg (by simp)] at hd
        rw [hd] at hnx hit2
        have HI : Hid (It w.heap.size w s (pos + 1) (wr.iterAt w.heap.size s (pos + 1))) := hit2
        have hmx : max pos nx = max (pos + 1) nx := by omega
        have HC : Hid (n + countF s.data.toList fuel (max (pos + 1) nx) = countL s.data.toList) := by show _ = _; rw [← hmx]; exact hC.out
        have hfu' : s.size ≤ max (pos + 1) nx + fuel := by omega
        clear hfa hd hit2 hit hbad hmx hC f1 f2
        go_wp2_with fail
        go_roundw
        case rel => exact ⟨n, nx, pos + 1, fuel, rfl, rfl, HI.out, by omega, hns, by omega, hfu', HC, fun j a b => hI.out j (by omega) b⟩
        case measure => rw [HM.out]; simp only [World.iterPos, HI.out.1]; omega
      · have hmx : max pos nx = pos := by omega
        have hC2 := hC.out
        rw [hmx] at hC2 hfu
        obtain ⟨f, rfl⟩ : ∃ f, fuel = f + 1 := ⟨fuel - 1, by omega⟩
        simp only [countF] at hC2
        rw [if_pos (by rw [len_size]; exact hp)] at hC2
        by_cases ho : okL (s.data.toList.drop pos) = true
        · rw [if_pos ho] at hd
          rw [hd] at hnx hit2
          rw [hd, ho] at hfa
          have HF : Hid (∀ w, Calls Try.prog 27 #[.string s, .int .i64 pos, .int .i32 (valL (s.data.toList.drop pos))] w fun e w' => e = .returned (.bool false) ∧ w' = w) := hfa
          clear hfa hd ho hC hI hit
          generalize fit (s.data.toList.drop pos) = m at *
          generalize valL (s.data.toList.drop pos) = v at *
          have H2 : Hid (n + 1 + countF s.data.toList f (max (pos + m) nx) = countL s.data.toList) := by show _ = _; rw [show max (pos + m) nx = pos + m by omega]; omega
          have HI : Hid (It w.heap.size w s (pos + m) (wr.iterAt w.heap.size s (pos + m))) := hit2
          clear hC2 hit2
          go_wp2_with (first | (go_at_call 27; refine (HF.out _).mono ?_; rintro e w' ⟨rfl, rfl⟩))
          go_roundw
          case rel => exact ⟨n + 1, nx, pos + m, f, by go_num, rfl, HI.out, by omega, hns, by omega, by omega, H2, fun j a b => by omega⟩
          case measure => rw [HM.out]; simp only [World.iterPos, HI.out.1]; omega
        · have ho' : okL (s.data.toList.drop pos) = false := by simpa using ho
          rw [if_neg ho] at hd
          rw [hd] at hnx hit2
          rw [hd, ho'] at hfa
          have HF : Hid (∀ w, Calls Try.prog 27 #[.string s, .int .i64 pos, .int .i32 65533] w fun e w' => e = .returned (.bool true) ∧ w' = w) := hfa
          have hfs := fun w => fsize_any (s.extract pos s.size) w (by rw [← len_size, ext_end]; simp; omega)
          rw [ext_end] at hfs
          have HS : Hid (∀ w, Calls Try.prog 28 #[.string (s.extract pos s.size)] w fun e w' => e = .returned (.int .i64 (fit (s.data.toList.drop pos))) ∧ Below w.heap.size w w') := hfs
          have HB : Hid (∀ j, pos + 1 ≤ j → j < pos + fit (s.data.toList.drop pos) → 128 ≤ bt s.data.toList j ∧ bt s.data.toList j ≤ 191) := by
            intro j a b
            have g := (fit_spec (s.data.toList.drop pos)).2.2.1 (j - pos) (by omega) (by omega)
            have := goOn_cont _ _ (by omega) g
            rw [bt_drop, show pos + (j - pos) = j by omega] at this
            exact this
          clear hfa hd ho ho' hC hI hit hfs
          generalize fit (s.data.toList.drop pos) = m at *
          have H2 : Hid (n + 1 + countF s.data.toList f (max (pos + 1) (pos + m)) = countL s.data.toList) := by show _ = _; rw [show max (pos + 1) (pos + m) = pos + m by omega]; omega
          have HI : Hid (It w.heap.size w s (pos + 1) (wr.iterAt w.heap.size s (pos + 1))) := hit2
          clear hC2 hit2
          go_wp2_with (first | (go_at_call 27; refine (HF.out _).mono ?_; rintro e w' ⟨rfl, rfl⟩) | (go_at_call 28; refine (HS.out _).mono ?_; rintro e w' ⟨rfl, hb'⟩))
          have HI2 : Hid (It w.heap.size w s (pos + 1) _) := HI.out.step hb'
          go_roundw
          case rel => exact ⟨n + 1, pos + m, pos + 1, f, by go_num, by go_num, HI2.out, by omega, by omega, by omega, by omega, H2, HB.out⟩
          case measure => rw [HM.out]; simp only [World.iterPos, HI2.out.1]; omega
    · have hnx : ∀ ty, (Instr.next (.pointer (some ⟨w.heap.size, 0, none⟩)) true ty).run Try.prog wr = _ := fun ty => Lib.run_next_end_at wr w.heap.size s pos ty hit.1 hp
      have H2 : Hid (countL s.data.toList = n) := by
        show _ = _; rw [← hC.out, countF_end _ _ _ (by rw [len_size]; omega)]; rfl
      have hbel := hit.2
      clear hC hit
      go_wp2_with fail
      go_ret
      exact ⟨ret_int (by rw [H2.out]), hbel⟩
end Go.Proofs.Ytamohliclidpgab
