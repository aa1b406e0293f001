import Derived.Test.YthdchapieninbabBuf4
namespace Go.Proofs.Ythdchapieninbab
open Go.RowKit

section
variable {B b : Nat} {l : List UInt8} {room : Nat} {full : Bool} {w : World}

theorem BufP.same {ao : Option Addr} {cap : Nat} {w' : World} (h : BufP B b l room full ao cap w) (e : w'.heap = w.heap) : BufP B b l room full ao cap w' := by
  refine ⟨h.above, h.fits, h.most, by rw [e]; exact h.block, ?_⟩
  have := h.kept
  unfold Kept at this ⊢
  rw [e]; exact this
theorem Buf.same {w' : World} (h : Buf B b l room full w) (e : w'.heap = w.heap) : Buf B b l room full w' := by
  obtain ⟨ao, cap, h⟩ := h; exact ⟨ao, cap, h.same e⟩
theorem Buf.lt (h : Buf B b l room full w) : b < w.heap.size := by
  obtain ⟨ao, cap, h⟩ := h; exact (Array.getElem?_eq_some_iff.1 h.block).1
theorem Buf.above (h : Buf B b l room full w) : B ≤ b := by obtain ⟨ao, cap, h⟩ := h; exact h.above
theorem Buf.fits (h : Buf B b l room full w) : l.length ≤ room ∧ room ≤ 1048576 := by obtain ⟨ao, cap, h⟩ := h; exact ⟨h.fits, h.most⟩

/-- What lies beyond the buffer's own blocks may turn. -/
theorem Buf.step {w' : World} (h : Buf B b l room full w) (hb : Below w.heap.size w w') : Buf B b l room full w' := by
  obtain ⟨ao, cap, h⟩ := h
  have hl := (Array.getElem?_eq_some_iff.1 h.block).1
  refine ⟨ao, cap, h.above, h.fits, h.most, by rw [hb.block b hl]; exact h.block, ?_⟩
  rcases h.kept with h1 | ⟨g, cur, h1, h2, h3, h4, h5⟩
  · exact .inl h1
  · exact .inr ⟨g, cur, h1, h2, h3, by rw [hb.block g (Array.getElem?_eq_some_iff.1 h4).1]; exact h4, h5⟩

theorem Buf.new (room : Nat) (w : World) (h : room ≤ 1048576) : Buf w.heap.size w.heap.size [] room false (w.alloc (.cells #[.slice none 0 0, .int .i64 room, .bool false] 44)) :=
  ⟨none, 0, Nat.le_refl _, Nat.zero_le _, h, heap_alloc_new w _, .inl ⟨rfl, rfl, rfl⟩⟩

theorem put_no (s : ByteArray) (h : Buf B b l room full w) (hn : full = true ∨ room < l.length + s.size) :
    Calls Try.prog 11 #[.pointer (some ⟨b, 0, none⟩), .string s] w fun e w' => e = .returned (.bool false) ∧ Buf B b l room true w' ∧ Turn B b w w' := by
  have h0 := h
  obtain ⟨ao, cap, h⟩ := h
  have ha := h.above
  obtain ⟨c0, c1, c2, f⟩ := h.cells
  have f2 := f 2
  cases full
  · have hn' : room < l.length + s.size := by simpa using hn
    clear hn
    have h1 := h.fits
    have hd : leftI l room false < (s.size : Int) := by unfold leftI; simp; omega
    go_enter Try.func11, Try.ntmps11
    go_wp2_with fail
    refine (left_any h0).mono ?_
    rintro e w1 ⟨rfl, n, hw⟩
    have h2 : BufP B b l room false ao cap w1 := h.same (by rw [hw]; rfl)
    have b1 : Turn B b w w1 := by rw [hw]; exact (Turn.refl _ _ _).drewN _
    clear h h0 hw c0 c1 c2 f f2
    obtain ⟨c0, c1, c2, f⟩ := h2.cells
    have f2 := f 2
    have HB : Hid _ := h2.full' true
    clear f h2
    go_wp2_with fail
    go_ret
    exact ⟨rfl, ⟨ao, cap, HB.out⟩, b1.setCell ha 2 _⟩
  · have HB : Hid _ := h.full' true
    clear f h h0
    go_enter Try.func11, Try.ntmps11
    go_wp2_with fail
    go_ret
    exact ⟨rfl, ⟨ao, cap, HB.out⟩, (Turn.refl _ _ _).setCell ha 2 _⟩

theorem BufP.put {ao ao' : Option Addr} {cap cap' : Nat} {w' : World} (h : BufP B b l room false ao cap w) (s : ByteArray) (hf : l.length + s.size ≤ room) (hk : Kept w' B b (l ++ s.data.toList) ao' cap') (hb : w'.heap[b]? = w.heap[b]?) :
    Buf B b (l ++ s.data.toList) room false (w'.setCell ⟨b, 0, none⟩ (.slice ao' (l.length + s.size) cap')) := by
  have e : (l ++ s.data.toList).length = l.length + s.size := by rw [List.length_append, len_size]
  refine ⟨ao', cap', h.above, by omega, h.most, ?_, ?_⟩
  · rw [e]
    have hb' := hb.trans h.block
    simp [World.setCell, Array.getElem?_modify, hb']
  · rcases hk with h1 | ⟨g, cur, h1, h2, h3, h4, h5⟩
    · exact .inl h1
    · exact .inr ⟨g, cur, h1, h2, h3, by rw [Below.heap_setCell _ _ _ _ h3]; exact h4, h5⟩

set_option maxHeartbeats 400000 in
theorem put_yes (s : ByteArray) (h : Buf B b l room false w) (hn : l.length + s.size ≤ room) :
    Calls Try.prog 11 #[.pointer (some ⟨b, 0, none⟩), .string s] w fun e w' => e = .returned (.bool true) ∧ Buf B b (l ++ s.data.toList) room false w' ∧ Turn B b w w' := by
  have h0 := h
  obtain ⟨ao, cap, h⟩ := h
  have ha := h.above
  obtain ⟨c0, c1, c2, f⟩ := h.cells
  have hm := h.most
  have hd : ¬ leftI l room false < (s.size : Int) := by unfold leftI; simp; omega
  go_enter Try.func11, Try.ntmps11
  go_wp2_with fail
  refine (left_any h0).mono ?_
  rintro e w1 ⟨rfl, n, hw⟩
  have h2 : BufP B b l room false ao cap w1 := h.same (by rw [hw]; rfl)
  have b1 : Turn B b w w1 := by rw [hw]; exact (Turn.refl _ _ _).drewN _
  clear h h0 hw c0 c1 c2 f
  obtain ⟨c0, c1, c2, f⟩ := h2.cells
  have hlt := (Array.getElem?_eq_some_iff.1 h2.block).1
  have HP : Hid (BufP B b l room false ao cap w1) := h2
  clear h2 f
  have hend : ∀ {ao' : Option Addr} {cap' : Nat} {w2 : World}, Kept w2 B b (l ++ s.data.toList) ao' cap' → w2.heap[b]? = w1.heap[b]? → w2.cell? ⟨b, 0, none⟩ = some (.slice ao l.length cap) ∧ w2.frozen? ⟨b, 0, none⟩ = false ∧ Hid (Buf B b (l ++ s.data.toList) room false (w2.setCell ⟨b, 0, none⟩ (.slice ao' (l.length + s.size) cap'))) :=
    fun hk hb2 => ⟨(World.cell?_of_block (a := ⟨b, 0, none⟩) hb2).trans HP.out.cells.1, (World.frozen?_of_block (a := ⟨b, 0, none⟩) hb2).trans (HP.out.cells.2.2.2 0), HP.out.put s hn hk hb2⟩
  have HE : Hid _ := @hend
  clear hend
  go_wp2_with (at_builtin; refine wpList_append_kept rfl (.tmp 23) (.tmp 24) rfl ao cap s rfl rfl HP.out.kept hlt (by omega) (by omega) ?_; intro ao' cap' w2 hk hb2 b2; obtain ⟨d0, f0, HB⟩ := HE.out hk hb2; clear hk hb2)
  have e1 : (l ++ s.data.toList).length = l.length + s.size := by rw [List.length_append, len_size]
  refine (keep_any (l.length + s.size) HB.out (by omega)).mono ?_
  rintro e w3 ⟨rfl, hb3, b3⟩
  rw [List.take_of_length_le (by omega)] at hb3
  go_wp2_with fail
  go_ret
  exact ⟨rfl, hb3, (b1.trans (b2.setCell ha 0 _)).trans b3⟩

theorem conv_new (l : List UInt8) (w : World) : (convert 42 9 (.slice (some ⟨w.heap.size, 0, none⟩) l.length l.length)).run Try.prog (w.alloc (.cells (u8s l).toArray 5)) = .ok (.string ⟨l.toArray⟩) (w.alloc (.cells (u8s l).toArray 5)) := by
  refine run_convert_bytes_back _ 42 9 5 ⟨w.heap.size, 0, none⟩ l.length l Try.underlying42 Try.underlying5 Try.underlying9 fun j hj => ?_
  have e : (w.alloc (.cells (u8s l).toArray 5)).cell? ⟨w.heap.size, j, none⟩ = some (.int .u8 (l[j].toNat : Int)) := by
    rw [World.cell?_alloc_new]; simp [u8s, hj]
  unfold Addr.add
  by_cases hj0 : j = 0
  · subst hj0; exact e
  · rw [if_neg hj0]; simpa using e
theorem conv_one (c : UInt8) (w : World) : (convert 42 9 (.slice (some ⟨w.heap.size, 0, none⟩) 1 1)).run Try.prog (w.alloc (.cells #[.int .u8 (c.toNat : Int)] 5)) = .ok (.string ⟨#[c]⟩) (w.alloc (.cells #[.int .u8 (c.toNat : Int)] 5)) := conv_new [c] w

theorem Buf.alloc (h : Buf B b l room full w) (o : Obj) : Buf B b l room full (w.alloc o) := h.step ((Below.refl _ _).alloc (Nat.le_refl _) _)

theorem byte_yes (c : UInt8) (h : Buf B b l room false w) (hn : l.length + 1 ≤ room) :
    Calls Try.prog 16 #[.pointer (some ⟨b, 0, none⟩), .int .u8 (c.toNat : Int)] w fun e w' => e = .returned (.bool true) ∧ Buf B b (l ++ [c]) room false w' ∧ Turn B b w w' := by
  have hlt := h.lt
  have ha := h.above
  have hconv := conv_one c w
  have HP := hid (put_yes ⟨#[c]⟩ (h.alloc (.cells #[.int .u8 (c.toNat : Int)] 5)) hn)
  generalize hr : (⟨#[c]⟩ : ByteArray) = r at *
  have HR : Hid (r.data.toList = [c]) := by rw [← hr]; rfl
  clear hr
  go_enter Try.func16, Try.ntmps16
  go_wp2_with (go_at_call 11; refine HP.out.mono ?_; rintro e w' ⟨rfl, hb, bel⟩)
  go_ret
  rw [HR.out] at hb
  exact ⟨rfl, hb, ((Turn.refl _ _ _).alloc (by omega) _).trans bel⟩

theorem byte_no (c : UInt8) (h : Buf B b l room full w) (hn : full = true ∨ room < l.length + 1) :
    Calls Try.prog 16 #[.pointer (some ⟨b, 0, none⟩), .int .u8 (c.toNat : Int)] w fun e w' => e = .returned (.bool false) ∧ Buf B b l room true w' ∧ Turn B b w w' := by
  have hlt := h.lt
  have ha := h.above
  have hconv := conv_one c w
  have HP := hid (put_no ⟨#[c]⟩ (h.alloc (.cells #[.int .u8 (c.toNat : Int)] 5)) hn)
  generalize (⟨#[c]⟩ : ByteArray) = r at *
  go_enter Try.func16, Try.ntmps16
  go_wp2_with (go_at_call 11; refine HP.out.mono ?_; rintro e w' ⟨rfl, hb, bel⟩)
  go_ret
  exact ⟨rfl, hb, ((Turn.refl _ _ _).alloc (by omega) _).trans bel⟩

/-- The last place of a byte among the first k; -1: there is none. -/
def backTo (l : List UInt8) (c : Int) : Nat → Int
  | 0 => -1
  | k + 1 => if ((l.getD k 0).toNat : Int) = c then (k : Int) else backTo l c k
def backI (l : List UInt8) (c : Int) : Int := backTo l c l.length

theorem backTo_le (l : List UInt8) (c : Int) : ∀ k, -1 ≤ backTo l c k ∧ backTo l c k < k
  | 0 => by simp [backTo]
  | k + 1 => by
    have := backTo_le l c k
    unfold backTo; split <;> omega

set_option maxHeartbeats 400000 in
theorem lib_back {ao : Option Addr} {cap : Nat} (c : Int) (h : Kept w B b l ao cap) (hl : l.length ≤ 1048576) :
    Calls Try.prog 24 #[.slice ao l.length cap, .int .u8 c] w fun e w' => e = .returned (.int .i64 (backI l c)) ∧ w' = w := by
  have hlc := h.len.1
  go_enter Try.func24, Try.ntmps24
  go_wp2
  go_loop [5] (fun i => ∃ k : Nat, k ≤ l.length ∧ i = .int .i64 ((k : Int) - 1) ∧ Hid (backI l c = backTo l c k)) (fun i => (intOf i + 1).toNat)
  case atStart => exact ⟨l.length, Nat.le_refl _, rfl, rfl⟩
  case round =>
    obtain ⟨k, hk, rfl, hin⟩ := hrel
    cases k with
    | zero =>
      have H : Hid (backI l c = -1) := hin.out
      go_wp2
      go_ret
      exact ⟨ret_int H.out.symm, rfl⟩
    | succ k =>
      rcases h.nil_or with ⟨_, rfl, _⟩ | ⟨g, rfl⟩
      · simp at hk
      · have hat := h.at k (by omega)
        have hg : ((l.getD k 0).toNat : Int) = (l[k].toNat : Int) := by
          rw [List.getD_eq_getElem?_getD, List.getElem?_eq_getElem (by omega)]; rfl
        have z1 : ((k + 1 : Nat) : Int) - 1 = (k : Int) := by omega
        rw [z1]
        by_cases hx : ((l[k].toNat : Int) == c) = true
        · have H : Hid (backI l c = (k : Int)) := by
            show _ = _
            rw [hin.out]; unfold backTo; rw [hg, if_pos (beq_iff_eq.1 hx)]
          clear hin hg z1
          generalize l[k] = x at *
          go_wp2
          go_ret
          exact ⟨ret_int H.out.symm, rfl⟩
        · have hx' : ((l[k].toNat : Int) == c) = false := by simpa using hx
          have H : Hid (backI l c = backTo l c k) := by
            show _ = _
            rw [hin.out]; conv => lhs; unfold backTo
            rw [hg, if_neg (beq_eq_false_iff_ne.1 hx')]
          clear hin hg z1 hx
          generalize l[k] = x at *
          go_wp2
          go_round
          case rel => exact ⟨k, by omega, rfl, H⟩
          case measure => simp [intOf]

theorem back_any (c : Int) (h : Buf B b l room full w) :
    Calls Try.prog 20 #[.pointer (some ⟨b, 0, none⟩), .int .u8 c] w fun e w' => e = .returned (.int .i64 (backI l c)) ∧ w' = w := by
  obtain ⟨ao, cap, h⟩ := h
  obtain ⟨c0, c1, c2, f⟩ := h.cells
  have hm : l.length ≤ 1048576 := Nat.le_trans h.fits h.most
  have HL := hid (lib_back c h.kept hm)
  have HB : Hid (Calls Try.prog 23 #[.slice ao l.length cap, .int .u8 c] w fun e w' => e = .returned (.int .i64 (backI l c)) ∧ w' = w) := by
    show Calls _ _ _ _ _
    clear c0 c1 c2 f
    go_enter Try.func23, Try.ntmps23
    go_wp2_with (go_at_call 24; refine HL.out.mono ?_; rintro e w' ⟨rfl, rfl⟩)
    go_ret
    exact ⟨rfl, rfl⟩
  clear HL
  go_enter Try.func20, Try.ntmps20
  go_wp2_with (go_at_call 23; refine HB.out.mono ?_; rintro e w' ⟨rfl, rfl⟩)
  go_ret
  exact ⟨rfl, rfl⟩
end
end Go.Proofs.Ythdchapieninbab
