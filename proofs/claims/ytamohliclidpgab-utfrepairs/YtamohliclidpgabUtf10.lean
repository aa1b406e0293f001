import Derived.Test.YtamohliclidpgabUtf9
import Derived.Test.YtamohliclidpgabBld
namespace Go.Proofs.Ytamohliclidpgab
open Go.RowKit

theorem encodeRune_eq (r : Int) (h : scB r = true) : Lib.encodeRune r = (encS r).data.toList := by
  have hr : (0 ≤ r ∧ r < 55296) ∨ (57343 < r ∧ r ≤ 1114111) := of_decide_eq_true h
  obtain ⟨E1, E2, E3, E4⟩ := encode_cases r h
  unfold Lib.encodeRune
  by_cases h1 : r < 128
  · rw [E1 h1, Lib.encodeRuneZ_one (by omega) (by omega)]; rfl
  · by_cases h2 : r < 2048
    · rw [E2 (by omega) h2, Lib.encodeRuneZ_two (by omega) (by omega)]; rfl
    · by_cases h3 : r < 65536
      · rw [E3 (by omega) h3, Lib.encodeRuneZ_three (by omega)]; rfl
      · rw [E4 (by omega), Lib.encodeRuneZ_four (by omega) (by omega)]; rfl

/-- Each fault by one sign. -/
def pieceL (l : List UInt8) : List UInt8 := if okL l then l.take (fit l) else [239, 191, 189]
def repF (l : List UInt8) : Nat → Nat → List UInt8
  | 0, _ => []
  | f + 1, i => if i < l.length then pieceL (l.drop i) ++ repF l f (i + fit (l.drop i)) else []
def repL (l : List UInt8) : List UInt8 := repF l l.length 0
theorem repF_end (l : List UInt8) (f i : Nat) (h : ¬ i < l.length) : repF l f i = [] := by
  cases f with
  | zero => rfl
  | succ f => simp [repF, h]

/-- The rune that the language gives at a place is what WriteRune writes as the piece. -/
theorem piece_rune (s : ByteArray) (i : Nat) (h : i < s.size) : Lib.encodeRune ((Utf8.decode s i).1 : Nat) = pieceL (s.data.toList.drop i) := by
  rw [decode_eq s i h]
  unfold pieceL
  by_cases ho : okL (s.data.toList.drop i) = true
  · obtain ⟨a, b, _, _⟩ := ok_facts _ ho
    rw [if_pos ho, if_pos ho, encodeRune_eq _ a, ← b]
    unfold encS; rw [if_pos a]
  · rw [if_neg ho, if_neg ho]; decide +kernel

theorem piece_len (l : List UInt8) (h : l ≠ []) : 1 ≤ (pieceL l).length ∧ (pieceL l).length ≤ 3 * fit l ∧ (pieceL l).length ≤ 4 := by
  obtain ⟨f1, f4, _, _⟩ := fit_spec l
  have := fit_le l h
  unfold pieceL
  split
  · rw [List.length_take]; omega
  · simp; omega

theorem below_grown {w w' : World} (h : Below w.heap.size w w') : w.grownBy w' none := ⟨h.os, h.tape, h.output, h.size, fun k hk _ => h.block k hk⟩
theorem bld_below {T e : TypeId} {B b : Nat} {bs : List Value} {w w' : World} (h : Lib.IsBuilderF T e B b bs w) (hb : Below w.heap.size w w') : Lib.IsBuilderF T e B b bs w' := by
  have one : ∀ p, Lib.BuilderAtF T e B b p bs w → Lib.BuilderAtF T e B b p bs w' := by
    intro p hp
    have hlt := hp.lt
    obtain ⟨hB, v, hbk, hown, hne⟩ := hp
    exact ⟨hB, v, (hb.block b hlt).trans hbk, hown.kept (below_grown hb) (by cases v.ownBlock <;> simp), hne⟩
  rcases h with h | h
  · exact .inl (one _ h)
  · exact .inr (one _ h)

/-- A builder, and an iterator behind it. -/
def BI (B : Nat) (W0 : World) (s : ByteArray) (pos : Nat) (acc : List UInt8) (w : World) : Prop :=
  Lib.IsBuilderF 57 5 B B (Lib.byteCells acc) w ∧ w.heap[B + 1]? = some (.stringIter s pos) ∧ Below B W0 w
theorem BI.next {B : Nat} {W0 w : World} {s : ByteArray} {pos : Nat} {acc : List UInt8} (h : BI B W0 s pos acc w) (p : Nat) : BI B W0 s p acc (w.iterAt (B + 1) s p) :=
  ⟨h.1.iterAt h.2.1 p, Lib.iterAt_heap w (B + 1) s pos p h.2.1, Lib.below_iterAt h.2.2 (by omega) s p⟩
theorem BI.step {B : Nat} {W0 w w' : World} {s : ByteArray} {pos : Nat} {acc : List UInt8} (h : BI B W0 s pos acc w) (h' : Below w.heap.size w w') : BI B W0 s pos acc w' := by
  have hlt : B + 1 < w.heap.size := (Array.getElem?_eq_some_iff.1 h.2.1).1
  exact ⟨bld_below h.1 h', (h'.block (B + 1) hlt).trans h.2.1, h.2.2.trans (h'.mono (by omega))⟩
theorem BI.lt {B : Nat} {W0 w : World} {s : ByteArray} {pos : Nat} {acc : List UInt8} (h : BI B W0 s pos acc w) : B + 1 < w.heap.size := (Array.getElem?_eq_some_iff.1 h.2.1).1
theorem BI.put {B : Nat} {W0 w w' : World} {s : ByteArray} {pos : Nat} {acc more : List UInt8} (h : BI B W0 s pos acc w) (h1 : Lib.BuilderAtF 57 5 B B (.pointer (some ⟨B, 0, none⟩)) (Lib.byteCells acc ++ Lib.byteCells more) w') (h2 : Below B w w') (h3 : Lib.OthersKept 5 (some B) w w') : BI B W0 s pos (acc ++ more) w' :=
  ⟨.inr (by rw [Lib.byteCells_append]; exact h1), h3.iter h.2.1 (by omega), h.2.2.trans h2⟩
theorem BI.start (w : World) (s : ByteArray) : BI w.heap.size w s 0 [] ((w.alloc (.cells #[.pointer none, .slice none 0 0] 57)).iter s 0) := by
  refine ⟨(Lib.IsBuilderF.of (Lib.fresh_isBuilder 57 5 w)).alloc _, ?_, ((Below.refl _ w).alloc (Nat.le_refl _) _).alloc (by simp) _⟩
  have := World.iter_heap (w.alloc (.cells #[.pointer none, .slice none 0 0] 57)) s 0
  simpa using this

/-- WriteRune, at such a world. -/
theorem wr_any (B : Nat) (W0 w : World) (s : ByteArray) (pos i : Nat) (acc : List UInt8) (h : BI B W0 s pos acc w) (hi : i < s.size) (hlen : acc.length + 4 ≤ 140737488355328) :
    Calls Try.prog 32 #[.pointer (some ⟨B, 0, none⟩), .int .i32 ((Utf8.decode s i).1 : Nat)] w fun e w' => e = .returned (.tuple #[.int .i64 (Lib.runeCells ((Utf8.decode s i).1 : Nat)).length, .nilIface]) ∧ BI B W0 s pos (acc ++ pieceL (s.data.toList.drop i)) w' := by
  have hd := decode_le s i
  refine (wrune_any B B (Lib.byteCells acc) ((Utf8.decode s i).1 : Nat) (by omega) (by omega) w h.1 (by rw [Lib.byteCells_length]; omega) (by have := h.lt; omega)).mono ?_
  rintro e w' ⟨rfl, h1, h2, h3⟩
  rw [← Lib.byteCells_encodeRune, piece_rune s i hi] at h1
  exact ⟨rfl, h.put h1 h2 h3⟩

set_option maxHeartbeats 2000000 in
theorem rep_any (s : ByteArray) (w : World) (hs : s.size ≤ 1000000) :
    Calls Try.prog 24 #[.string s] w fun e w' => e = .returned (.string ⟨(repL s.data.toList).toArray⟩) ∧ Below w.heap.size w w' := by
  go_enter Try.func24, Try.ntmps24
  go_wp2
  go_loopw [4] (fun b wr => ∃ (nx pos fuel : Nat) (acc : List UInt8), b = .int .i64 nx ∧ BI w.heap.size w s pos acc wr ∧ pos ≤ s.size ∧ nx ≤ s.size ∧ acc.length ≤ 3 * max pos nx ∧ s.size ≤ max pos nx + fuel ∧ Hid (acc ++ repF s.data.toList fuel (max pos nx) = repL s.data.toList) ∧ Hid (∀ j, pos ≤ j → j < nx → 128 ≤ bt s.data.toList j ∧ bt s.data.toList j ≤ 191)) (fun _ wr => s.size - wr.iterPos (w.heap.size + 1))
  case atStart => exact ⟨0, 0, s.size, [], rfl, BI.start w s, by omega, by omega, by simp, by omega, by show _ = _; unfold repL; rw [len_size]; simp, fun j a b => by omega⟩
  case round =>
    obtain ⟨nx, pos, fuel, acc, rfl, hit, hps, hns, hal, hfu, hC, hI⟩ := hrel
    by_cases hp : pos < s.size
    · have hnx : ∀ ty, (Instr.next (.pointer (some ⟨w.heap.size + 1, 0, none⟩)) true ty).run Try.prog wr = _ := fun ty => Lib.run_next_any_at wr (w.heap.size + 1) s pos ty hit.2.1 hp
      have hd := decode_eq s pos hp
      have hfa := fun w => fault_at s pos w hp
      have hit2 := hit.next (pos + (Utf8.decode s pos).2)
      have HM : Hid (s.size - wr.iterPos (w.heap.size + 1) = s.size - pos) := by show _ = _; simp [World.iterPos, hit.2.1]
      have f1 := (fit_spec (s.data.toList.drop pos)).1
      have f2 := fit_le _ (drop_ne s pos hp)
      rw [List.length_drop, len_size] at f2
      obtain ⟨pl1, pl2, pl3⟩ := piece_len _ (drop_ne s pos hp)
      by_cases hin : pos < nx
      · have hbad := cont_bad (s.data.toList.drop pos) (by rw [bt_drop]; exact hI.out pos (Nat.le_refl _) hin)
        rw [hbad, if_neg (by simp)] at hd
        rw [hd] at hnx hit2
        have HI : Hid (BI w.heap.size w s (pos + 1) acc (wr.iterAt (w.heap.size + 1) s (pos + 1))) := hit2
        have hmx : max pos nx = max (pos + 1) nx := by omega
        have HC : Hid (acc ++ repF s.data.toList fuel (max (pos + 1) nx) = repL s.data.toList) := by show _ = _; rw [← hmx]; exact hC.out
        rw [hmx] at hal hfu
        clear hfa hd hit2 hit hbad hmx hC f1 f2 pl1 pl2 pl3
        go_wp2_with fail
        go_roundw
        case rel => exact ⟨nx, pos + 1, fuel, acc, rfl, HI.out, by omega, hns, hal, hfu, HC, fun j a b => hI.out j (by omega) b⟩
        case measure => rw [HM.out]; simp only [World.iterPos, HI.out.2.1]; omega
      · have hmx : max pos nx = pos := by omega
        have hC2 := hC.out
        rw [hmx] at hC2 hfu hal
        obtain ⟨f, rfl⟩ : ∃ f, fuel = f + 1 := ⟨fuel - 1, by omega⟩
        simp only [repF] at hC2
        rw [if_pos (by rw [len_size]; exact hp), ← List.append_assoc] at hC2
        have hW := fun (w' : World) (p : Nat) (h : BI w.heap.size w s p acc w') => wr_any w.heap.size w w' s p pos acc h hp (by omega)
        by_cases ho : okL (s.data.toList.drop pos) = true
        · rw [if_pos ho] at hd
          rw [hd] at hnx hit2 hW
          rw [hd, ho] at hfa
          have HF : Hid (∀ w, Calls Try.prog 27 #[.string s, .int .i64 pos, .int .i32 (valL (s.data.toList.drop pos))] w fun e w' => e = .returned (.bool false) ∧ w' = w) := hfa
          have HW : Hid (∀ (w' : World) (p : Nat), BI w.heap.size w s p acc w' → Calls Try.prog 32 #[.pointer (some ⟨w.heap.size, 0, none⟩), .int .i32 (valL (s.data.toList.drop pos))] w' fun e w'' => e = .returned (.tuple #[.int .i64 (Lib.runeCells (valL (s.data.toList.drop pos))).length, .nilIface]) ∧ BI w.heap.size w s p (acc ++ pieceL (s.data.toList.drop pos)) w'') := hW
          clear hfa hd ho hC hI hit hW
          generalize fit (s.data.toList.drop pos) = m at *
          generalize valL (s.data.toList.drop pos) = v at *
          generalize pieceL (s.data.toList.drop pos) = pc at *
          have H2 : Hid (acc ++ pc ++ repF s.data.toList f (max (pos + m) nx) = repL s.data.toList) := by show _ = _; rw [show max (pos + m) nx = pos + m by omega]; exact hC2
          have HI : Hid (BI w.heap.size w s (pos + m) acc (wr.iterAt (w.heap.size + 1) s (pos + m))) := hit2
          have hal2 : Hid ((acc ++ pc).length ≤ 3 * max (pos + m) nx) := by show _ ≤ _; rw [List.length_append]; omega
          clear hC2 hit2
          go_wp2_with (first | (go_at_call 27; refine (HF.out _).mono ?_; rintro e w' ⟨rfl, rfl⟩) | (go_at_call 32; refine (HW.out _ _ HI.out).mono ?_; rintro e w' ⟨rfl, hbi⟩))
          go_roundw
          case rel => exact ⟨nx, pos + m, f, acc ++ pc, rfl, hbi, by omega, hns, hal2.out, by omega, H2, fun j a b => by omega⟩
          case measure => rw [HM.out]; simp only [World.iterPos, hbi.2.1]; omega
        · have ho' : okL (s.data.toList.drop pos) = false := by simpa using ho
          rw [if_neg ho] at hd
          rw [hd] at hnx hit2 hW
          rw [hd, ho'] at hfa
          have HF : Hid (∀ w, Calls Try.prog 27 #[.string s, .int .i64 pos, .int .i32 65533] w fun e w' => e = .returned (.bool true) ∧ w' = w) := hfa
          have HW : Hid (∀ (w' : World) (p : Nat), BI w.heap.size w s p acc w' → Calls Try.prog 32 #[.pointer (some ⟨w.heap.size, 0, none⟩), .int .i32 65533] w' fun e w'' => e = .returned (.tuple #[.int .i64 (Lib.runeCells 65533).length, .nilIface]) ∧ BI w.heap.size w s p (acc ++ pieceL (s.data.toList.drop pos)) w'') := hW
          have hfs := fun w => fsize_any (s.extract pos s.size) w (by rw [ext_size]; omega)
          rw [ext_end] at hfs
          have HS : Hid (∀ w, Calls Try.prog 28 #[.string (s.extract pos s.size)] w fun e w' => e = .returned (.int .i64 (fit (s.data.toList.drop pos))) ∧ Below w.heap.size w w') := hfs
          have HB : Hid (∀ j, pos + 1 ≤ j → j < pos + fit (s.data.toList.drop pos) → 128 ≤ bt s.data.toList j ∧ bt s.data.toList j ≤ 191) := by
            intro j a b
            have g := (fit_spec (s.data.toList.drop pos)).2.2.1 (j - pos) (by omega) (by omega)
            have := goOn_cont _ _ (by omega) g
            rw [bt_drop, show pos + (j - pos) = j by omega] at this
            exact this
          clear hfa hd ho ho' hC hI hit hfs hW
          generalize fit (s.data.toList.drop pos) = m at *
          generalize pieceL (s.data.toList.drop pos) = pc at *
          have H2 : Hid (acc ++ pc ++ repF s.data.toList f (max (pos + 1) (pos + m)) = repL s.data.toList) := by show _ = _; rw [show max (pos + 1) (pos + m) = pos + m by omega]; exact hC2
          have HI : Hid (BI w.heap.size w s (pos + 1) acc (wr.iterAt (w.heap.size + 1) s (pos + 1))) := hit2
          have hal2 : Hid ((acc ++ pc).length ≤ 3 * max (pos + 1) (pos + m)) := by show _ ≤ _; rw [List.length_append]; omega
          clear hC2 hit2
          go_wp2_with (first | (go_at_call 27; refine (HF.out _).mono ?_; rintro e w' ⟨rfl, rfl⟩) | (go_at_call 28; refine (HS.out _).mono ?_; rintro e w' ⟨rfl, hb'⟩; replace HI : Hid (BI w.heap.size w s (pos + 1) acc w') := HI.out.step hb'; clear hb') | (go_at_call 32; refine (HW.out _ _ HI.out).mono ?_; rintro e w' ⟨rfl, hbi⟩))
          go_roundw
          case rel => exact ⟨pos + m, pos + 1, f, acc ++ pc, by go_num, hbi, by omega, by omega, hal2.out, by omega, H2, HB.out⟩
          case measure => rw [HM.out]; simp only [World.iterPos, hbi.2.1]; omega
    · have hnx : ∀ ty, (Instr.next (.pointer (some ⟨w.heap.size + 1, 0, none⟩)) true ty).run Try.prog wr = _ := fun ty => Lib.run_next_end_at wr (w.heap.size + 1) s pos ty hit.2.1 hp
      have H2 : Hid (acc = repL s.data.toList) := by
        show _ = _; rw [← hC.out, repF_end _ _ _ (by rw [len_size]; omega), List.append_nil]
      have hlt := hit.lt
      clear hC
      go_wp2_with (first | (go_at_call 33; refine (bstr_any w.heap.size w.heap.size acc _ hit.1 (by omega)).mono ?_; rintro e w' ⟨rfl, _, b1, _⟩))
      go_ret
      exact ⟨ret_string (by rw [H2.out]), hit.2.2.trans b1⟩
end Go.Proofs.Ytamohliclidpgab
