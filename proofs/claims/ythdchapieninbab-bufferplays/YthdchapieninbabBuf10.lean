import Derived.Test.YthdchapieninbabBuf9
namespace Go.Proofs.Ythdchapieninbab
open Go.RowKit

section
variable {B b room : Nat} {full : Bool} {w : World} {x : ByteArray}

set_option maxHeartbeats 2000000 in
theorem step_byte (n : Int) (c : UInt8) (s : ByteArray) (h : Buf B b x.data.toList room full w) :
    Calls Try.prog 8 #[.pointer (some ⟨b, 0, none⟩), .agg #[.string x, .int .i64 room, .bool full], .agg #[.int .i64 2, .int .i64 n, .string s, .int .u8 (c.toNat : Int)]] w (StepOk B b room w) := by
  have hf := h.fits
  rw [len_size] at hf
  have hlt := h.lt
  have ha := h.above
  obtain ⟨x', full', ok, hr, hp⟩ := byte_both (B := B) (b := b) c hf.1 hf.2 full
  have HX := hid (Boxes.start w (.cells #[.string x, .int .i64 room, .bool full] 29) (.cells #[.int .i64 2, .int .i64 n, .string s, .int .u8 (c.toNat : Int)] 31) (.cells #[.string ⟨#[]⟩, .int .i64 0, .bool false] 29))
  have HT := hid (Turn.boxes (B := B) (b := b) (w := w) (by omega) (.cells #[.string x, .int .i64 room, .bool full] 29) (.cells #[.int .i64 2, .int .i64 n, .string s, .int .u8 (c.toNat : Int)] 31) (.cells #[.string ⟨#[]⟩, .int .i64 0, .bool false] 29))
  have hconv := conv_one c (((w.alloc (.cells #[.string x, .int .i64 room, .bool full] 29)).alloc (.cells #[.int .i64 2, .int .i64 n, .string s, .int .u8 (c.toNat : Int)] 31)).alloc (.cells #[.string ⟨#[]⟩, .int .i64 0, .bool false] 29))
  generalize hone : (⟨#[c]⟩ : ByteArray) = one at *
  simp only [World.size_alloc] at hconv
  have HR := hid hr
  have HPut := hid hp
  clear hr hp hone
  go_enter Try.func8, Try.ntmps8
  go_wp2_with fail
  refine (HR.out _).mono ?_
  rintro e w1 ⟨rfl, hb1⟩
  have X1 := (HX.out.alloc _).step hb1
  have T1 := (HT.out.alloc (by simp; omega) _).below (by simp; omega) hb1
  have hB1 : Buf B b x.data.toList room full w1 := ((((h.alloc _).alloc _).alloc _).alloc _).step hb1
  have hz := X1.lt
  have HX1 := hid X1
  clear hb1 HX HT h HR X1 hconv
  go_wp2_with fail
  have X2 := HX1.out.alloc (.cells #[.string x', .int .i64 room, .bool full'] 29)
  have T2 := T1.alloc (by omega) (.cells #[.string x', .int .i64 room, .bool full'] 29)
  have hB2 := hB1.alloc (.cells #[.string x', .int .i64 room, .bool full'] 29)
  have y2 : (w1.alloc (.cells #[.string x', .int .i64 room, .bool full'] 29)).heap[w1.heap.size]? = some (.cells #[.string x', .int .i64 room, .bool full'] 29) := heap_alloc_new w1 _
  generalize w1.alloc (.cells #[.string x', .int .i64 room, .bool full'] 29) = W2 at *
  obtain ⟨c0, c1, c2, _, _, _⟩ := blk3 y2
  obtain ⟨_, _, _, o3⟩ := blk4 X2.o
  obtain ⟨r0, r1, r2, g0, g1, g2⟩ := blk3 X2.r
  have HP : Hid (∀ W3, Turn B b W2.drew W3 → W3.cell? ⟨w1.heap.size, 0, none⟩ = some (.string x') ∧ W3.cell? ⟨w1.heap.size, 1, none⟩ = some (.int .i64 room) ∧ W3.cell? ⟨w1.heap.size, 2, none⟩ = some (.bool full') ∧ W3.heap[w.heap.size + 1 + 1]? = some (.cells #[.string ⟨#[]⟩, .int .i64 0, .bool false] 29) ∧ Turn B b w W3) := fun W3 ht => by
    obtain ⟨e0, e1, e2, _⟩ := blk3 (ht.block y2 (by omega) (by simp))
    exact ⟨e0, e1, e2, ht.block X2.r (by omega) (by simp), T2.drew.trans ht⟩
  have HB := hid (HPut.out W2.drew hB2.drew)
  clear X2 hB2 y2 T2 HX1 hB1 T1 HPut
  go_region_with (first | (go_at_call 16; refine HB.out.mono ?_; rintro e W3 ⟨rfl, hB3, ht3⟩; obtain ⟨c0, c1, c2, r3, t3⟩ := HP.out W3 ht3; obtain ⟨r0, r1, r2, g0, g1, g2⟩ := blk3 r3; clear ht3))
  all_goals
    have t4 := hid (t3.set3 (w.heap.size + 1 + 1) (by omega) (by omega) (.string x') (.int .i64 room) (.bool full'))
    have b4 := hid (hB3.heap r3 (by omega) (by simp) (fun j hj => set3_other W3 (w.heap.size + 1 + 1) j (.string x') (.int .i64 room) (.bool full') hj))
    clear t3 hB3 r3
    go_wp2
    exact bodyPost_ret (v := .tuple #[.agg #[.string x', .int .i64 room, .bool full'], .bool true]) (by simp [results, Try.results8, go_sem, r0, r1, r2]) rfl ⟨x', full', rfl, b4.out, t4.out⟩

set_option maxHeartbeats 2000000 in
theorem step_none (kind n c : Int) (s : ByteArray) (h1 : (kind == 1) = false) (h2 : (kind == 2) = false) (h3 : (kind == 3) = false) (h4 : (kind == 4) = false) (h : Buf B b x.data.toList room full w) :
    Calls Try.prog 8 #[.pointer (some ⟨b, 0, none⟩), .agg #[.string x, .int .i64 room, .bool full], .agg #[.int .i64 kind, .int .i64 n, .string s, .int .u8 c]] w (StepOk B b room w) := by
  have hlt := h.lt
  have ha := h.above
  have HT := hid (Turn.boxes (B := B) (b := b) (w := w) (by omega) (.cells #[.string x, .int .i64 room, .bool full] 29) (.cells #[.int .i64 kind, .int .i64 n, .string s, .int .u8 c] 31) (.cells #[.string x, .int .i64 room, .bool full] 29))
  go_enter Try.func8, Try.ntmps8
  go_wp2_with fail
  exact bodyPost_ret (v := .tuple #[.agg #[.string x, .int .i64 room, .bool full], .bool true]) (by simp [results, Try.results8, go_sem]) rfl ⟨x, full, rfl, ((h.alloc _).alloc _).alloc _, HT.out⟩

set_option maxHeartbeats 2000000 in
theorem step_clear (n c : Int) (s : ByteArray) (h : Buf B b x.data.toList room full w) :
    Calls Try.prog 8 #[.pointer (some ⟨b, 0, none⟩), .agg #[.string x, .int .i64 room, .bool full], .agg #[.int .i64 4, .int .i64 n, .string s, .int .u8 c]] w (StepOk B b room w) := by
  have hlt := h.lt
  have ha := h.above
  have HX := hid (Boxes.start w (.cells #[.string x, .int .i64 room, .bool full] 29) (.cells #[.int .i64 4, .int .i64 n, .string s, .int .u8 c] 31) (.cells #[.string ⟨#[]⟩, .int .i64 0, .bool false] 29))
  have HT := hid (Turn.boxes (B := B) (b := b) (w := w) (by omega) (.cells #[.string x, .int .i64 room, .bool full] 29) (.cells #[.int .i64 4, .int .i64 n, .string s, .int .u8 c] 31) (.cells #[.string ⟨#[]⟩, .int .i64 0, .bool false] 29))
  go_enter Try.func8, Try.ntmps8
  go_wp2_with fail
  refine (clear_any (((h.alloc _).alloc _).alloc _)).mono ?_
  rintro e W3 ⟨rfl, hB3, ht3⟩
  have x3 := ht3.block HX.out.x (by omega) (by simp)
  have r3 := ht3.block HX.out.r (by omega) (by simp)
  have t3 := HT.out.trans ht3
  obtain ⟨_, c1, _, _⟩ := blk3 x3
  obtain ⟨r0, r1, r2, g0, g1, g2⟩ := blk3 r3
  have t4 := hid (t3.set3 (w.heap.size + 1 + 1) (by omega) (by omega) (.string ⟨#[]⟩) (.int .i64 room) (.bool false))
  have b4 := hid (hB3.heap r3 (by omega) (by simp) (fun j hj => set3_other W3 (w.heap.size + 1 + 1) j (.string ⟨#[]⟩) (.int .i64 room) (.bool false) hj))
  clear t3 hB3 r3 x3 HX HT ht3 h
  go_wp2_with fail
  exact bodyPost_ret (v := .tuple #[.agg #[.string ⟨#[]⟩, .int .i64 room, .bool false], .bool true]) (by simp [results, Try.results8, go_sem, r0, r1, r2]) rfl ⟨⟨#[]⟩, false, rfl, b4.out, t4.out⟩

set_option maxHeartbeats 2000000 in
theorem step_cutno (n c : Int) (s : ByteArray) (hn : n < 0 ∨ (x.size : Int) < n) (h : Buf B b x.data.toList room full w) :
    Calls Try.prog 8 #[.pointer (some ⟨b, 0, none⟩), .agg #[.string x, .int .i64 room, .bool full], .agg #[.int .i64 3, .int .i64 n, .string s, .int .u8 c]] w (StepOk B b room w) := by
  have hlt := h.lt
  have ha := h.above
  have HX := Boxes.start w (.cells #[.string x, .int .i64 room, .bool full] 29) (.cells #[.int .i64 3, .int .i64 n, .string s, .int .u8 c] 31) (.cells #[.string ⟨#[]⟩, .int .i64 0, .bool false] 29)
  have HT := Turn.boxes (B := B) (b := b) (w := w) (by omega) (.cells #[.string x, .int .i64 room, .bool full] 29) (.cells #[.int .i64 3, .int .i64 n, .string s, .int .u8 c] 31) (.cells #[.string ⟨#[]⟩, .int .i64 0, .bool false] 29)
  have HB := ((h.alloc (.cells #[.string x, .int .i64 room, .bool full] 29)).alloc (.cells #[.int .i64 3, .int .i64 n, .string s, .int .u8 c] 31)).alloc (.cells #[.string ⟨#[]⟩, .int .i64 0, .bool false] 29)
  have HX := hid HX
  have HT := hid HT
  have HB := hid HB
  rcases hn with hn | hn
  all_goals
    try have hn0 : ¬ n < 0 := by omega
    go_enter Try.func8, Try.ntmps8
    go_wp2_with fail
    have X2 := HX.out
    have T2 := HT.out
    have hB2 := HB.out
    generalize (((w.alloc (.cells #[.string x, .int .i64 room, .bool full] 29)).alloc (.cells #[.int .i64 3, .int .i64 n, .string s, .int .u8 c] 31)).alloc (.cells #[.string ⟨#[]⟩, .int .i64 0, .bool false] 29)) = W2 at *
    obtain ⟨c0, c1, c2, _, _, _⟩ := blk3 X2.x
    obtain ⟨_, o1, _, _⟩ := blk4 X2.o
    obtain ⟨r0, r1, r2, g0, g1, g2⟩ := blk3 X2.r
    have HC := hid (cut_no n hB2.drew (by rw [len_size]; omega))
    have t4 := hid (T2.drew.set3 (w.heap.size + 1 + 1) (by omega) (by omega) (.string x) (.int .i64 room) (.bool full))
    have b4 := hid (hB2.drew.heap X2.r (by omega) (by simp) (fun j hj => set3_other W2.drew (w.heap.size + 1 + 1) j (.string x) (.int .i64 room) (.bool full) hj))
    clear X2 T2 hB2 HX HT HB h
    go_region_with (first | (go_at_call 17; refine HC.out.mono ?_; rintro e W3 ⟨rfl, rfl⟩))
    all_goals
      go_wp2
      exact bodyPost_ret (v := .tuple #[.agg #[.string x, .int .i64 room, .bool full], .bool true]) (by simp [results, Try.results8, go_sem, r0, r1, r2]) rfl ⟨x, full, rfl, b4.out, t4.out⟩
end
end Go.Proofs.Ythdchapieninbab
