import Derived.Test.YthdchapieninbabBuf10
namespace Go.Proofs.Ythdchapieninbab
open Go.RowKit

section
variable {B b room : Nat} {full : Bool} {w : World} {x : ByteArray}

theorem ext_take (x : ByteArray) (n : Nat) : (x.extract 0 n).data.toList = x.data.toList.take n := by
  rw [ext_list, List.drop_zero, Nat.sub_zero]

set_option maxHeartbeats 2000000 in
theorem step_cutyes (n : Nat) (c : Int) (s : ByteArray) (hn : n ≤ x.size) (h : Buf B b x.data.toList room full w) :
    Calls Try.prog 8 #[.pointer (some ⟨b, 0, none⟩), .agg #[.string x, .int .i64 room, .bool full], .agg #[.int .i64 3, .int .i64 n, .string s, .int .u8 c]] w (StepOk B b room w) := by
  have hlt := h.lt
  have ha := h.above
  have hf := h.fits
  rw [len_size] at hf
  have HX := hid (Boxes.start w (.cells #[.string (x.extract 0 n), .int .i64 room, .bool full] 29) (.cells #[.int .i64 3, .int .i64 n, .string s, .int .u8 c] 31) (.cells #[.string ⟨#[]⟩, .int .i64 0, .bool false] 29))
  have HT := hid (Turn.boxes (B := B) (b := b) (w := w) (by omega) (.cells #[.string (x.extract 0 n), .int .i64 room, .bool full] 29) (.cells #[.int .i64 3, .int .i64 n, .string s, .int .u8 c] 31) (.cells #[.string ⟨#[]⟩, .int .i64 0, .bool false] 29))
  have HB := hid (((h.alloc (.cells #[.string (x.extract 0 n), .int .i64 room, .bool full] 29)).alloc (.cells #[.int .i64 3, .int .i64 n, .string s, .int .u8 c] 31)).alloc (.cells #[.string ⟨#[]⟩, .int .i64 0, .bool false] 29))
  have HE := hid (ext_take x n)
  have hn1 : ¬ (x.size : Int) < (n : Int) := by omega
  have hn2 : (n : Int) ≤ (x.size : Int) := by omega
  go_enter Try.func8, Try.ntmps8
  go_wp2_with fail
  have X2 := HX.out
  have T2 := HT.out
  have hB2 := HB.out
  generalize x.extract 0 n = x' at *
  generalize (((w.alloc (.cells #[.string x', .int .i64 room, .bool full] 29)).alloc (.cells #[.int .i64 3, .int .i64 n, .string s, .int .u8 c] 31)).alloc (.cells #[.string ⟨#[]⟩, .int .i64 0, .bool false] 29)) = W2 at *
  obtain ⟨c0, c1, c2, _, _, _⟩ := blk3 X2.x
  obtain ⟨_, o1, _, _⟩ := blk4 X2.o
  obtain ⟨r0, r1, r2, g0, g1, g2⟩ := blk3 X2.r
  have hC := cut_yes n hB2.drew (by rw [len_size]; exact hn)
  rw [← HE.out] at hC
  have HC := hid hC
  have HP : Hid (∀ W3, Turn B b W2.drew W3 → W3.cell? ⟨w.heap.size, 0, none⟩ = some (.string x') ∧ W3.cell? ⟨w.heap.size, 1, none⟩ = some (.int .i64 room) ∧ W3.cell? ⟨w.heap.size, 2, none⟩ = some (.bool full) ∧ W3.heap[w.heap.size + 1 + 1]? = some (.cells #[.string ⟨#[]⟩, .int .i64 0, .bool false] 29) ∧ Turn B b w W3) := fun W3 ht => by
    obtain ⟨e0, e1, e2, _⟩ := blk3 (ht.block X2.x (by omega) (by simp))
    exact ⟨e0, e1, e2, ht.block X2.r (by omega) (by simp), T2.drew.trans ht⟩
  clear X2 T2 hB2 HX HT HB h hC
  go_region_with (first | (go_at_call 17; refine HC.out.mono ?_; rintro e W3 ⟨rfl, hB3, ht3⟩; obtain ⟨c0, c1, c2, r3, t3⟩ := HP.out W3 ht3; obtain ⟨r0, r1, r2, g0, g1, g2⟩ := blk3 r3; clear ht3))
  all_goals
    have t4 := hid (t3.set3 (w.heap.size + 1 + 1) (by omega) (by omega) (.string x') (.int .i64 room) (.bool full))
    have b4 := hid (hB3.heap r3 (by omega) (by simp) (fun j hj => set3_other W3 (w.heap.size + 1 + 1) j (.string x') (.int .i64 room) (.bool full) hj))
    clear t3 hB3 r3
    go_wp2
    exact bodyPost_ret (v := .tuple #[.agg #[.string x', .int .i64 room, .bool full], .bool true]) (by simp [results, Try.results8, go_sem, r0, r1, r2]) rfl ⟨x', full, rfl, b4.out, t4.out⟩

theorem step_any (kind n c : Int) (s : ByteArray) (hs : s.size ≤ 1000) (hc0 : 0 ≤ c) (hc1 : c ≤ 255) (h : Buf B b x.data.toList room full w) :
    Calls Try.prog 8 #[.pointer (some ⟨b, 0, none⟩), .agg #[.string x, .int .i64 room, .bool full], .agg #[.int .i64 kind, .int .i64 n, .string s, .int .u8 c]] w (StepOk B b room w) := by
  by_cases h1 : kind = 1
  · subst h1; exact step_put n c s hs h
  by_cases h2 : kind = 2
  · subst h2
    obtain ⟨k, rfl⟩ := Int.eq_ofNat_of_zero_le hc0
    have e : (k : Int) = ((UInt8.ofNat k).toNat : Int) := by
      have : (UInt8.ofNat k).toNat = k % 256 := UInt8.toNat_ofNat'
      omega
    rw [e]; exact step_byte n _ s h
  by_cases h3 : kind = 3
  · subst h3
    by_cases hn : n < 0 ∨ (x.size : Int) < n
    · exact step_cutno n c s hn h
    · obtain ⟨k, rfl⟩ := Int.eq_ofNat_of_zero_le (show 0 ≤ n by omega)
      exact step_cutyes k c s (by omega) h
  by_cases h4 : kind = 4
  · subst h4; exact step_clear n c s h
  exact step_none kind n c s (by simp [h1]) (by simp [h2]) (by simp [h3]) (by simp [h4]) h
end

/-- One call of a sequence. -/
structure OpR where
  kind : Int
  n : Int
  s : ByteArray
  c : Int
def OpR.ok (o : OpR) : Prop := o.s.size ≤ maxLen ∧ 0 ≤ o.c ∧ o.c ≤ 255
/-- A slice that holds these calls. -/
def OpSl (w : World) (v : Value) (os : List OpR) : Prop :=
  (os = [] ∧ ∃ a cap, v = .slice a 0 cap) ∨ ∃ b off cap, v = .slice (some ⟨b, off, none⟩) os.length cap ∧ b < w.heap.size ∧ ∀ j (h : j < os.length),
    (w.cell? ⟨b, off + j * 4, none⟩ = some (.int .i64 os[j].kind) ∧ w.cell? ⟨b, off + j * 4 + 1, none⟩ = some (.int .i64 os[j].n) ∧ w.cell? ⟨b, off + j * 4 + 2, none⟩ = some (.string os[j].s) ∧ w.cell? ⟨b, off + j * 4 + 3, none⟩ = some (.int .u8 os[j].c)) ∧ os[j].ok
end Go.Proofs.Ythdchapieninbab
