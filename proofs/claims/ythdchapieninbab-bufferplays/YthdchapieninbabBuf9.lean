import Derived.Test.YthdchapieninbabBuf8
namespace Go.Proofs.Ythdchapieninbab
open Go.RowKit

theorem blk3 {w : World} {k : Nat} {a b c : Value} {t : TypeId} (h : w.heap[k]? = some (.cells #[a, b, c] t)) :
    w.cell? ⟨k, 0, none⟩ = some a ∧ w.cell? ⟨k, 1, none⟩ = some b ∧ w.cell? ⟨k, 2, none⟩ = some c ∧ w.frozen? ⟨k, 0, none⟩ = false ∧ w.frozen? ⟨k, 1, none⟩ = false ∧ w.frozen? ⟨k, 2, none⟩ = false := by
  simp [World.cell?, World.frozen?, h]
theorem blk4 {w : World} {k : Nat} {a b c d : Value} {t : TypeId} (h : w.heap[k]? = some (.cells #[a, b, c, d] t)) :
    w.cell? ⟨k, 0, none⟩ = some a ∧ w.cell? ⟨k, 1, none⟩ = some b ∧ w.cell? ⟨k, 2, none⟩ = some c ∧ w.cell? ⟨k, 3, none⟩ = some d := by
  simp [World.cell?, h]

section
variable {B b room : Nat} {full : Bool} {w : World} {x : ByteArray}

/-- A block that is neither the buffer's nor a row of bytes may turn. -/
theorem Buf.heap {l : List UInt8} {w' : World} (h : Buf B b l room full w) {k : Nat} {o : Obj} (hk : w.heap[k]? = some o) (hb : k ≠ b) (ho : ∀ c fz, o ≠ .cells c 5 fz) (hw : ∀ j, j ≠ k → w'.heap[j]? = w.heap[j]?) : Buf B b l room full w' := by
  obtain ⟨ao, cap, h⟩ := h
  refine ⟨ao, cap, h.above, h.fits, h.most, by rw [hw b (fun e => hb e.symm)]; exact h.block, ?_⟩
  rcases h.kept with h1 | ⟨g, cur, h1, h2, h3, h4, h5⟩
  · exact .inl h1
  · refine .inr ⟨g, cur, h1, h2, h3, ?_, h5⟩
    rw [hw g (fun e => ?_)]
    · exact h4
    · subst e; rw [h4] at hk; exact ho _ _ (Option.some.inj hk).symm

theorem set3_other (w : World) (k j : Nat) (a c d : Value) (h : j ≠ k) : (((w.setCell ⟨k, 0, none⟩ a).setCell ⟨k, 1, none⟩ c).setCell ⟨k, 2, none⟩ d).heap[j]? = w.heap[j]? := by
  rw [Below.heap_setCell _ _ _ _ h, Below.heap_setCell _ _ _ _ h, Below.heap_setCell _ _ _ _ h]
theorem Turn.set3 {u v : World} (h : Turn B b u v) (k : Nat) (hk : u.heap.size ≤ k) (hB : B ≤ u.heap.size) (a c d : Value) : Turn B b u (((v.setCell ⟨k, 0, none⟩ a).setCell ⟨k, 1, none⟩ c).setCell ⟨k, 2, none⟩ d) := by
  have hBk : B ≤ k := Nat.le_trans hB hk
  refine ⟨((h.1.setCell (p := ⟨k, 0, none⟩) hBk a).setCell (p := ⟨k, 1, none⟩) hBk c).setCell (p := ⟨k, 2, none⟩) hBk d, fun j o hj hb ho => ?_⟩
  have := (Array.getElem?_eq_some_iff.1 hj).1
  rw [set3_other _ _ _ _ _ _ (by omega)]
  exact h.2 j o hj hb ho

/-- What a step answers: a state that the buffer is in, and true. -/
def StepOk (B b room : Nat) (w : World) (e : Ending) (w' : World) : Prop :=
  ∃ x' full', e = .returned (.tuple #[.agg #[.string x', .int .i64 room, .bool full'], .bool true]) ∧ Buf B b x'.data.toList room full' w' ∧ Turn B b w w'

/-- Where a step's own boxes lie. -/
structure Boxes (w : World) (X O R : Obj) (w1 : World) : Prop where
  x : w1.heap[w.heap.size]? = some X
  o : w1.heap[w.heap.size + 1]? = some O
  r : w1.heap[w.heap.size + 1 + 1]? = some R
  lt : w.heap.size + 1 + 1 < w1.heap.size

theorem Boxes.start (w : World) (X O R : Obj) : Boxes w X O R (((w.alloc X).alloc O).alloc R) := by
  refine ⟨?_, ?_, ?_, by simp⟩
  · rw [Below.heap_alloc _ _ _ (by simp; omega), Below.heap_alloc _ _ _ (by simp)]; exact heap_alloc_new w X
  · rw [Below.heap_alloc _ _ _ (by simp)]
    have := heap_alloc_new (w.alloc X) O
    simpa using this
  · have := heap_alloc_new ((w.alloc X).alloc O) R
    simpa using this
theorem Boxes.step {w w1 w2 : World} {X O R : Obj} (h : Boxes w X O R w1) (hb : Below w1.heap.size w1 w2) : Boxes w X O R w2 := by
  have := h.lt
  have := hb.size
  exact ⟨(hb.block _ (by omega)).trans h.x, (hb.block _ (by omega)).trans h.o, (hb.block _ (by omega)).trans h.r, by omega⟩
theorem Boxes.alloc {w w1 : World} {X O R : Obj} (h : Boxes w X O R w1) (ob : Obj) : Boxes w X O R (w1.alloc ob) := h.step ((Below.refl _ _).alloc (Nat.le_refl _) _)
theorem Turn.boxes (hB : B ≤ w.heap.size) (X O R : Obj) : Turn B b w (((w.alloc X).alloc O).alloc R) := (((Turn.refl B b w).alloc hB X).alloc (by simp; omega) O).alloc (by simp; omega) R
theorem Turn.below {u v : World} (h : Turn B b w u) (hB : B ≤ u.heap.size) (hb : Below u.heap.size u v) : Turn B b w v :=
  h.trans ⟨hb.mono hB, fun k _ hk _ _ => (hb.block k (Array.getElem?_eq_some_iff.1 hk).1).trans hk⟩

/-- What both sides of a Put come to. -/
theorem put_both (s : ByteArray) (hs : s.size ≤ 1000) (hf : x.size ≤ room) (hm : room ≤ 1048576) (full : Bool) : ∃ (x' : ByteArray) (full' ok : Bool),
    (∀ w, Calls Try.prog 15 #[.agg #[.string x, .int .i64 room, .bool full], .string s] w fun e w' => e = .returned (.tuple #[.agg #[.string x', .int .i64 room, .bool full'], .bool ok]) ∧ Below w.heap.size w w') ∧
    (∀ w, Buf B b x.data.toList room full w → Calls Try.prog 11 #[.pointer (some ⟨b, 0, none⟩), .string s] w fun e w' => e = .returned (.bool ok) ∧ Buf B b x'.data.toList room full' w' ∧ Turn B b w w') := by
  by_cases hp : full = false ∧ x.size + s.size ≤ room
  · obtain ⟨rfl, hfit⟩ := hp
    refine ⟨x ++ s, false, true, fun w => rput_yes x s room w hfit (by omega) hs, fun w h => ?_⟩
    rw [app_list]; exact put_yes s h (by rw [len_size]; exact hfit)
  · have hp' : full = true ∨ room < x.size + s.size := by
      cases full
      · right; simp at hp; omega
      · exact .inl rfl
    exact ⟨x, true, false, fun w => rput_no x s room full w hp' (by omega) hs, fun w h => put_no s h (by rw [len_size]; exact hp')⟩

theorem byte_both (c : UInt8) (hf : x.size ≤ room) (hm : room ≤ 1048576) (full : Bool) : ∃ (x' : ByteArray) (full' ok : Bool),
    (∀ w, Calls Try.prog 15 #[.agg #[.string x, .int .i64 room, .bool full], .string ⟨#[c]⟩] w fun e w' => e = .returned (.tuple #[.agg #[.string x', .int .i64 room, .bool full'], .bool ok]) ∧ Below w.heap.size w w') ∧
    (∀ w, Buf B b x.data.toList room full w → Calls Try.prog 16 #[.pointer (some ⟨b, 0, none⟩), .int .u8 (c.toNat : Int)] w fun e w' => e = .returned (.bool ok) ∧ Buf B b x'.data.toList room full' w' ∧ Turn B b w w') := by
  by_cases hp : full = false ∧ x.size + 1 ≤ room
  · obtain ⟨rfl, hfit⟩ := hp
    refine ⟨x ++ ⟨#[c]⟩, false, true, fun w => rput_yes x ⟨#[c]⟩ room w hfit (by omega) (Nat.le_of_ble_eq_true rfl), fun w h => ?_⟩
    rw [app_list]; exact byte_yes c h (by rw [len_size]; exact hfit)
  · have hp' : full = true ∨ room < x.size + 1 := by
      cases full
      · right; simp at hp; omega
      · exact .inl rfl
    exact ⟨x, true, false, fun w => rput_no x ⟨#[c]⟩ room full w hp' (by omega) (Nat.le_of_ble_eq_true rfl), fun w h => byte_no c h (by rw [len_size]; exact hp')⟩

theorem and_self_b (a : Bool) : (a == a) = true := by cases a <;> rfl

set_option maxHeartbeats 2000000 in
theorem step_put (n c : Int) (s : ByteArray) (hs : s.size ≤ 1000) (h : Buf B b x.data.toList room full w) :
    Calls Try.prog 8 #[.pointer (some ⟨b, 0, none⟩), .agg #[.string x, .int .i64 room, .bool full], .agg #[.int .i64 1, .int .i64 n, .string s, .int .u8 c]] w (StepOk B b room w) := by
  have hf := h.fits
  rw [len_size] at hf
  have hlt := h.lt
  have ha := h.above
  obtain ⟨x', full', ok, hr, hp⟩ := put_both (B := B) (b := b) s hs hf.1 hf.2 full
  have HR := hid hr
  have HPut := hid hp
  have HX := hid (Boxes.start w (.cells #[.string x, .int .i64 room, .bool full] 29) (.cells #[.int .i64 1, .int .i64 n, .string s, .int .u8 c] 31) (.cells #[.string ⟨#[]⟩, .int .i64 0, .bool false] 29))
  have HT := hid (Turn.boxes (B := B) (b := b) (w := w) (by omega) (.cells #[.string x, .int .i64 room, .bool full] 29) (.cells #[.int .i64 1, .int .i64 n, .string s, .int .u8 c] 31) (.cells #[.string ⟨#[]⟩, .int .i64 0, .bool false] 29))
  clear hr hp
  go_enter Try.func8, Try.ntmps8
  go_wp2_with fail
  refine (HR.out _).mono ?_
  rintro e w1 ⟨rfl, hb1⟩
  have X1 := HX.out.step hb1
  have T1 := HT.out.below (by simp; omega) hb1
  have hB1 : Buf B b x.data.toList room full w1 := (((h.alloc _).alloc _).alloc _).step hb1
  have hz := X1.lt
  have HX1 := hid X1
  clear hb1 HX HT h HR X1
  go_wp2_with fail
  have X2 := HX1.out.alloc (.cells #[.string x', .int .i64 room, .bool full'] 29)
  have T2 := T1.alloc (by omega) (.cells #[.string x', .int .i64 room, .bool full'] 29)
  have hB2 := hB1.alloc (.cells #[.string x', .int .i64 room, .bool full'] 29)
  have y2 : (w1.alloc (.cells #[.string x', .int .i64 room, .bool full'] 29)).heap[w1.heap.size]? = some (.cells #[.string x', .int .i64 room, .bool full'] 29) := heap_alloc_new w1 _
  generalize w1.alloc (.cells #[.string x', .int .i64 room, .bool full'] 29) = W2 at *
  obtain ⟨c0, c1, c2, _, _, _⟩ := blk3 y2
  obtain ⟨_, _, o2, _⟩ := blk4 X2.o
  obtain ⟨r0, r1, r2, g0, g1, g2⟩ := blk3 X2.r
  have HP : Hid (∀ W3, Turn B b W2.drew W3 → W3.cell? ⟨w1.heap.size, 0, none⟩ = some (.string x') ∧ W3.cell? ⟨w1.heap.size, 1, none⟩ = some (.int .i64 room) ∧ W3.cell? ⟨w1.heap.size, 2, none⟩ = some (.bool full') ∧ W3.heap[w.heap.size + 1 + 1]? = some (.cells #[.string ⟨#[]⟩, .int .i64 0, .bool false] 29) ∧ Turn B b w W3) := fun W3 ht => by
    obtain ⟨e0, e1, e2, _⟩ := blk3 (ht.block y2 (by omega) (by simp))
    exact ⟨e0, e1, e2, ht.block X2.r (by omega) (by simp), T2.drew.trans ht⟩
  have HB := hid (HPut.out W2.drew hB2.drew)
  clear X2 hB2 y2 T2 HX1 hB1 T1 HPut
  go_region_with (first | (go_at_call 11; refine HB.out.mono ?_; rintro e W3 ⟨rfl, hB3, ht3⟩; obtain ⟨c0, c1, c2, r3, t3⟩ := HP.out W3 ht3; obtain ⟨r0, r1, r2, g0, g1, g2⟩ := blk3 r3; clear ht3))
  all_goals
    have t4 := hid (t3.set3 (w.heap.size + 1 + 1) (by omega) (by omega) (.string x') (.int .i64 room) (.bool full'))
    have b4 := hid (hB3.heap r3 (by omega) (by simp) (fun j hj => set3_other W3 (w.heap.size + 1 + 1) j (.string x') (.int .i64 room) (.bool full') hj))
    clear t3 hB3 r3
    go_wp2
    exact bodyPost_ret (v := .tuple #[.agg #[.string x', .int .i64 room, .bool full'], .bool true]) (by simp [results, Try.results8, go_sem, r0, r1, r2]) rfl ⟨x', full', rfl, b4.out, t4.out⟩
end
end Go.Proofs.Ythdchapieninbab
