import Derived.Test.YtbamhbfncddieaaPr1
namespace Go.Proofs.Ytbamhbfncddieaa.Pr
open Go.RowKit Go.Lib

set_option maxHeartbeats 4000000 in
set_option maxRecDepth 100000 in
theorem rows3_any (s : ByteArray) (T : List R3) (w : World) (h : Dec s 0 (flat3 T)) (hl : T.length ≤ 1000) :
    Calls Try.prog 32 #[.string s, .int .i64 3] w fun e w' => ∃ v, e = .returned v ∧ w'.ownsRow w.heap.size 70 3 v T.length (T.flatMap c3) ∧ Below w.heap.size w w' := by
  have HD := hid h
  clear h
  go_enter Try.func32, Try.ntmps32
  go_wp2_with fail
  go_loopg [7, 5] (flat3 T).length (fun g av ov wr => ∃ (k j pos : Nat) (rest : List Int) (c0 c1 c2 : Int), g = rest.length ∧ av = .int .i64 j ∧ Hid (RwW w s T k pos rest c0 c1 c2 ov wr) ∧ Hid (Far3 T k j rest c0 c1))
  case atStart =>
    refine ⟨0, 0, 0, flat3 T, 0, 0, 0, rfl, rfl, ⟨HD.out, ?_, ?_, World.ownsRow_nil _ _ _ _, ?_, ?_, Nat.zero_le _⟩, .inl ⟨rfl, rfl⟩⟩
    · exact (Below.heap_alloc _ _ _ (by simp)).trans (heap_alloc_new _ _)
    · have := heap_alloc_new (w.alloc (.cells #[.int .i32 0, .int .i32 0, .int .i32 0] 70)) (.stringIter s 0)
      rw [World.size_alloc] at this; exact this
    · exact ((Below.refl _ _).alloc (Nat.le_refl _) _).alloc (by simp) _
    · show _ ≤ ((w.alloc _).alloc _).heap.size
      simp
  case round =>
    obtain ⟨k, j, pos, rest, c0, c1, c2, hg, rfl, H, HF⟩ := hrel
    have HG := hid hg
    clear hg
    obtain ⟨ao2, cap2, rfl⟩ := own_slice H.out.own
    have hkl := H.out.le
    rcases far3 H.out.le HF.out with ⟨rfl, rfl⟩ | ⟨x, c, l, hx, rfl, hst⟩
    · have hnx : ∀ ty, (Instr.next (.pointer (some ⟨w.heap.size + 1, 0, none⟩)) true ty).run Try.prog wr = _ := fun ty => run_next_end_at wr (w.heap.size + 1) s pos ty H.out.it H.out.dec
      have HO : Hid (wr.ownsRow w.heap.size 70 3 (.slice ao2 T.length cap2) T.length (T.flatMap c3)) := by
        have := own_base H.out.own (show w.heap.size ≤ w.heap.size + 2 by omega)
        rw [List.take_length] at this; exact this
      have HB := hid H.out.bel
      clear H HF
      go_wp2_with fail
      go_ret
      exact ⟨_, rfl, HO.out, HB.out⟩
    · have hnx : ∀ ty, (Instr.next (.pointer (some ⟨w.heap.size + 1, 0, none⟩)) true ty).run Try.prog wr = .ok (.tuple #[.bool true, .int .i64 pos, .int .i32 c]) (wr.iterAt (w.heap.size + 1) s (pos + (Utf8.decode s pos).2)) := fun ty => by
        rw [run_next_any_at wr (w.heap.size + 1) s pos ty H.out.it H.out.dec.1, H.out.dec.2.1]
      have hrow : (wr.iterAt (w.heap.size + 1) s (pos + (Utf8.decode s pos).2)).heap[w.heap.size]? = some (.cells #[.int .i32 c0, .int .i32 c1, .int .i32 c2] 70) := by
        rw [iterAt_other _ _ _ _ _ (by omega)]; exact H.out.row
      obtain ⟨q0, q1, q2, qf⟩ := cells3 hrow
      have HP := hid (fun j d0 d1 d2 hd => H.out.put j d0 d1 d2 hd)
      have hk1 : (k : Int) < 1000 := by have := (List.getElem?_eq_some_iff.1 hx).1; omega
      have hsz : Hid (w.heap.size + 2 ≤ wr.heap.size) := H.out.size
      clear hrow H HF
      generalize hW : wr.iterAt (w.heap.size + 1) s (pos + (Utf8.decode s pos).2) = W1 at *
      have HW := hid hW
      clear hW
      obtain ⟨x1, x2, x3⟩ := x
      simp only at hst
      rcases hst with ⟨rfl, rfl, hf⟩ | ⟨rfl, rfl, rfl, hf⟩ | ⟨rfl, rfl, rfl, rfl, hf⟩
      · have HF := hid hf
        have HP0 := hid (HP.out 0 c c1 c2 rfl)
        clear hf HP
        go_wp2_with fail
        go_roundg l.length
        case measure => rw [HG.out]; simp
        case rel => exact ⟨k, 1, _, l, c, c1, c2, rfl, rfl, HP0.out, HF.out⟩
      · have HF := hid hf
        have HP0 := hid (HP.out 1 c0 c c2 rfl)
        clear hf HP
        go_wp2_with fail
        go_roundg l.length
        case measure => rw [HG.out]; simp
        case rel => exact ⟨k, 2, _, l, c0, c, c2, rfl, rfl, HP0.out, HF.out⟩
      · have HP0 := hid (HP.out 2 c0 c1 c rfl)
        obtain ⟨p0, p1, p2, _⟩ := cells3 HP0.out.row
        have HFF := hid hf
        have HX := hid hx
        clear HP hf hx
        go_wp2_with (at_builtin; refine wpList_r3 rfl (.tmp 23) (.tmp 25) rfl (W1.setCell ⟨w.heap.size, 2, none⟩ (.int .i32 c)) (w.heap.size + 2) k (.slice ao2 k cap2) ((T.take k).flatMap c3) (c0, c1, c) rfl W1.heap.size (by simp) rfl HP0.out.own (by omega) HP0.out.size ?_; intro v' w' ho hb; obtain ⟨ao3, cap3, rfl⟩ := own_slice ho; have HN := hid (HP0.out.next HX.out ho hb); clear ho hb)
        go_roundg l.length
        case measure => rw [HG.out]; simp
        case rel => exact ⟨k + 1, 0, _, l, c0, c1, c, rfl, rfl, HN.out, HFF.out _ _⟩

set_option maxHeartbeats 4000000 in
set_option maxRecDepth 100000 in
theorem rows2_any (s : ByteArray) (T : List R3) (w : World) (h : Dec s 0 (flat2 T)) (hl : T.length ≤ 1000) (hz : ∀ x ∈ T, x.2.2 = 0) :
    Calls Try.prog 32 #[.string s, .int .i64 2] w fun e w' => ∃ v, e = .returned v ∧ w'.ownsRow w.heap.size 70 3 v T.length (T.flatMap c3) ∧ Below w.heap.size w w' := by
  have HD := hid h
  clear h
  have HZ := hid hz
  clear hz
  go_enter Try.func32, Try.ntmps32
  go_wp2_with fail
  go_loopg [7, 5] (flat2 T).length (fun g av ov wr => ∃ (k j pos : Nat) (rest : List Int) (c0 c1 c2 : Int), g = rest.length ∧ av = .int .i64 j ∧ Hid (RwW w s T k pos rest c0 c1 c2 ov wr) ∧ Hid (c2 = 0 ∧ Far2 T k j rest c0))
  case atStart =>
    refine ⟨0, 0, 0, flat2 T, 0, 0, 0, rfl, rfl, ⟨HD.out, ?_, ?_, World.ownsRow_nil _ _ _ _, ?_, ?_, Nat.zero_le _⟩, rfl, .inl ⟨rfl, rfl⟩⟩
    · exact (Below.heap_alloc _ _ _ (by simp)).trans (heap_alloc_new _ _)
    · have := heap_alloc_new (w.alloc (.cells #[.int .i32 0, .int .i32 0, .int .i32 0] 70)) (.stringIter s 0)
      rw [World.size_alloc] at this; exact this
    · exact ((Below.refl _ _).alloc (Nat.le_refl _) _).alloc (by simp) _
    · show _ ≤ ((w.alloc _).alloc _).heap.size
      simp
  case round =>
    obtain ⟨k, j, pos, rest, c0, c1, c2, hg, rfl, H, HF⟩ := hrel
    have HG := hid hg
    clear hg
    obtain ⟨ao2, cap2, rfl⟩ := own_slice H.out.own
    have hkl := H.out.le
    obtain ⟨rfl, HF2⟩ := HF.out
    rcases far2 H.out.le HF2 with ⟨rfl, rfl⟩ | ⟨x, c, l, hx, rfl, hst⟩
    · have hnx : ∀ ty, (Instr.next (.pointer (some ⟨w.heap.size + 1, 0, none⟩)) true ty).run Try.prog wr = _ := fun ty => run_next_end_at wr (w.heap.size + 1) s pos ty H.out.it H.out.dec
      have HO : Hid (wr.ownsRow w.heap.size 70 3 (.slice ao2 T.length cap2) T.length (T.flatMap c3)) := by
        have := own_base H.out.own (show w.heap.size ≤ w.heap.size + 2 by omega)
        rw [List.take_length] at this; exact this
      have HB := hid H.out.bel
      clear H HF
      go_wp2_with fail
      go_ret
      exact ⟨_, rfl, HO.out, HB.out⟩
    · have hnx : ∀ ty, (Instr.next (.pointer (some ⟨w.heap.size + 1, 0, none⟩)) true ty).run Try.prog wr = .ok (.tuple #[.bool true, .int .i64 pos, .int .i32 c]) (wr.iterAt (w.heap.size + 1) s (pos + (Utf8.decode s pos).2)) := fun ty => by
        rw [run_next_any_at wr (w.heap.size + 1) s pos ty H.out.it H.out.dec.1, H.out.dec.2.1]
      have hrow : (wr.iterAt (w.heap.size + 1) s (pos + (Utf8.decode s pos).2)).heap[w.heap.size]? = some (.cells #[.int .i32 c0, .int .i32 c1, .int .i32 0] 70) := by
        rw [iterAt_other _ _ _ _ _ (by omega)]; exact H.out.row
      obtain ⟨q0, q1, q2, qf⟩ := cells3 hrow
      have HP := hid (fun j d0 d1 d2 hd => H.out.put j d0 d1 d2 hd)
      have hk1 : (k : Int) < 1000 := by have := (List.getElem?_eq_some_iff.1 hx).1; omega
      have hsz : Hid (w.heap.size + 2 ≤ wr.heap.size) := H.out.size
      clear hrow H HF
      generalize hW : wr.iterAt (w.heap.size + 1) s (pos + (Utf8.decode s pos).2) = W1 at *
      have HW := hid hW
      clear hW
      obtain ⟨x1, x2, x3⟩ := x
      simp only at hst
      have hz3 : x3 = 0 := HZ.out _ (List.mem_of_getElem? hx)
      subst hz3
      rcases hst with ⟨rfl, rfl, hf⟩ | ⟨rfl, rfl, rfl, hf⟩
      · have HF := hid hf
        have HP0 := hid (HP.out 0 c c1 0 rfl)
        clear hf HP
        go_wp2_with fail
        go_roundg l.length
        case measure => rw [HG.out]; simp
        case rel => exact ⟨k, 1, _, l, c, c1, 0, rfl, rfl, HP0.out, rfl, HF.out⟩
      · have HP0 := hid (HP.out 1 c0 c 0 rfl)
        obtain ⟨p0, p1, p2, _⟩ := cells3 HP0.out.row
        have HFF := hid hf
        have HX := hid hx
        clear HP hf hx
        go_wp2_with (at_builtin; refine wpList_r3 rfl (.tmp 23) (.tmp 25) rfl (W1.setCell ⟨w.heap.size, 1, none⟩ (.int .i32 c)) (w.heap.size + 2) k (.slice ao2 k cap2) ((T.take k).flatMap c3) (c0, c, 0) rfl W1.heap.size (by simp) rfl HP0.out.own (by omega) HP0.out.size ?_; intro v' w' ho hb; obtain ⟨ao3, cap3, rfl⟩ := own_slice ho; have HN := hid (HP0.out.next HX.out ho hb); clear ho hb)
        go_roundg l.length
        case measure => rw [HG.out]; simp
        case rel => exact ⟨k + 1, 0, _, l, c0, c, 0, rfl, rfl, HN.out, rfl, HFF.out _⟩

end Go.Proofs.Ytbamhbfncddieaa.Pr
