import Derived.Test.YthdchapieninbaaEsc9
namespace Go.Proofs.Ythdchapieninbaa
open Go.RowKit

attribute [local go_sem] Oper.semAt_some

set_option maxRecDepth 100000 in
set_option maxHeartbeats 4000000 in
theorem repup_any (f : List UInt8 → UInt8 → List UInt8) (s : ByteArray) (w : World) (hs : s.size ≤ 1000000)
    (HF : Hid (∀ (W : World) (x : ByteArray) (c : UInt8), Below w.heap.size w W → Calls Try.prog 31 #[.string x, .int .u8 (c.toNat : Int)] W fun e w' => e = .returned (.string ⟨(f x.data.toList c).toArray⟩) ∧ Below W.heap.size W w'))
    (HL : Hid (∀ (x : List UInt8) (c : UInt8), x.length ≤ 3 → (f x c).length ≤ 3)) :
    Calls Try.prog 24 #[.string s, .func (.func 31) #[] #[]] w fun e w' => e = .returned (.string ⟨(repl f s.data.toList).toArray⟩) ∧ Below w.heap.size w w' := by
  have HM : Hid (s.size ≤ maxLen) := by show _ ≤ _; unfold maxLen; omega
  refine (callsIn_wide (n := 6)).1 ?_
  refine callsIn_of_wp_marks Try.func24 rfl trivial ?_ rfl
  simp only [Try.ntmps24, List.size_toArray, List.length_cons, List.length_nil, Nat.reduceAdd, Nat.reduceSub, Array.replicate_succ, Array.replicate_zero, List.push_toArray, List.append_toArray, List.nil_append, List.cons_append]
  gi_wp2_with (first | (refine ⟨trivial, ?_⟩; gi_at_call 38; refine (callsIn_wide.2 (all_any _ _)).mono ?_; rintro e w' ⟨rfl, rfl⟩))
  have h0 : Rep2 f s w (.func (.func 31) #[] #[]) [] (((((w.alloc (.cells #[.string s] 9)).alloc (.cells #[.func (.func 31) #[] #[]] 46)).alloc (.cells #[.pointer none, .slice none 0 0] 37)).alloc (.cells #[.int .i64 0] 3)).alloc (.cells #[.string s] 9)) := by
    refine ⟨0, [], Nat.zero_le _, Nat.zero_le _, rfl, rfl, ⟨?_, ?_, ?_, ?_⟩, ?_, ?_⟩
    · rw [Below.heap_alloc _ _ _ (by simp; omega), Below.heap_alloc _ _ _ (by simp; omega), Below.heap_alloc _ _ _ (by simp; omega), Below.heap_alloc _ _ _ (by simp)]; exact heap_alloc_new w _
    · rw [Below.heap_alloc _ _ _ (by simp), Below.heap_alloc _ _ _ (by simp), Below.heap_alloc _ _ _ (by simp)]
      have := heap_alloc_new (w.alloc (.cells #[.string s] 9)) (.cells #[.func (.func 31) #[] #[]] 46)
      simpa using this
    · rw [Below.heap_alloc _ _ _ (by simp)]
      have := heap_alloc_new (((w.alloc (.cells #[.string s] 9)).alloc (.cells #[.func (.func 31) #[] #[]] 46)).alloc (.cells #[.pointer none, .slice none 0 0] 37)) (.cells #[.int .i64 0] 3)
      simpa using this
    · have := heap_alloc_new ((((w.alloc (.cells #[.string s] 9)).alloc (.cells #[.func (.func 31) #[] #[]] 46)).alloc (.cells #[.pointer none, .slice none 0 0] 37)).alloc (.cells #[.int .i64 0] 3)) (.cells #[.string s] 9)
      simpa using this
    · have := Bu.new ((w.alloc (.cells #[.string s] 9)).alloc (.cells #[.func (.func 31) #[] #[]] 46)) w.heap.size (by simp; omega)
      simp only [World.size_alloc] at this
      exact (this.alloc _).alloc _
    · exact (((((Below.refl _ w).alloc (Nat.le_refl _) _).alloc (by simp) _).alloc (by simp; omega) _).alloc (by simp; omega) _).alloc (by simp; omega) _
  have hz0 : (((((w.alloc (.cells #[.string s] 9)).alloc (.cells #[.func (.func 31) #[] #[]] 46)).alloc (.cells #[.pointer none, .slice none 0 0] 37)).alloc (.cells #[.int .i64 0] 3)).alloc (.cells #[.string s] 9)).heap.size = w.heap.size + 5 := by simp
  generalize (((((w.alloc (.cells #[.string s] 9)).alloc (.cells #[.func (.func 31) #[] #[]] 46)).alloc (.cells #[.pointer none, .slice none 0 0] 37)).alloc (.cells #[.int .i64 0] 3)).alloc (.cells #[.string s] 9)) = W0 at *
  have hT := all1_tells 5 (w.heap.size + 1 + 1 + 1 + 1) (by omega) s HM.out W0 (by omega) (by obtain ⟨_, _, _, _, _, _, ⟨_, _, _, c4⟩, _⟩ := h0; exact (one_cell c4).1)
  have hmx : Try.prog.follows .mixedOrders = true := by kernel_rfl
  have hC : w.heap.size ≤ W0.heap.size := by omega
  clear hz0
  refine wpIn_told rfl (by omega) (gf := 47) (lb := #[.pointer (some ⟨w.heap.size + 1 + 1 + 1 + 1, 0, none⟩)]) rfl trivial (enters_of Try.func47 (by kernel_rfl) rfl) hT (fun h k => kept_trans h k) kept_put (fun _ => rfl)
    (Rep2 f s w (.func (.func 31) #[] #[])) (rep_own f s w _ _ hC) h0
    (fun x => { tmps := #[.string s, .func (.func 31) #[] #[], .pointer (some ⟨w.heap.size, 0, none⟩), .pointer (some ⟨w.heap.size + 1, 0, none⟩), .string ⟨#[]⟩, .pointer (some ⟨w.heap.size + 1 + 1, 0, none⟩), .pointer (some ⟨w.heap.size + 1 + 1 + 1, 0, none⟩), .int .i64 (x.1 : Int), .int .u8 (x.2.toNat : Int), .string s, .func (.func 47) #[] #[.pointer (some ⟨w.heap.size + 1 + 1 + 1 + 1, 0, none⟩)], .int .i64 (x.1 : Int), .int .u8 (x.2.toNat : Int), undef, undef, undef, undef, undef, undef, undef, undef, undef, undef, undef, undef, undef, undef, undef, undef, undef, undef, undef, undef], defers := [] }) ?assign ?body ?done
  case assign =>
    intro l x W K hK
    unfold told
    gi_wp2
    exact hK
  case body =>
    rintro l pre x W ⟨k, out, hk, hol, he, hr, hX, hB, hb⟩ ⟨rest, hrest⟩
    clear hT h0
    have HE := fun (W : World) => rep_next (fv := .func (.func 31) #[] #[]) (w := w) (W := W) hk hol he hr hrest
    obtain ⟨n1, n2, _⟩ := HE W
    obtain ⟨at_, c⟩ := x
    simp only at n1 n2 HE ⊢
    have HG := hid (fun W => (HE W).2.2)
    obtain ⟨p1, _⟩ := one_cell hX.1
    obtain ⟨p3, _⟩ := one_cell hX.2.2.1
    have hBl := hb.size
    have hWl := hX.lt
    have HW := hid (wstr_any (s.extract k at_) hB (by omega) (by rw [sz_list, ext_list, List.length_take, List.length_drop, len_size]; omega))
    have HX := hid hX
    have HB := hid hB
    have Hb := hid hb
    have ha1 : (k : Int) ≤ (at_ : Int) := by omega
    have ha2 : (at_ : Int) ≤ (s.size : Int) := by omega
    have ha3 : (at_ : Int) ≤ 1000000 := by omega
    have ha4 : (at_ : Int) + 3 ≤ (s.size : Int) := by omega
    have HZ : Hid ((out ++ (s.extract k at_).data.toList).length ≤ 10000000) := by show _ ≤ _; rw [List.length_append, ext_list, List.length_take, List.length_drop, len_size]; omega
    clear he hr hrest hX hB hb HE
    gi_wp2_with (first | (refine ⟨trivial, ?_⟩; gi_at_call 22; refine (CallsIn.inRound l (callsIn_wide.2 HW.out)).mono ?_; rintro e W1 ⟨rfl, hB1, ht1⟩; have HX1 := hid (HX.out.turn ht1); obtain ⟨q3, g3⟩ := one_cell HX1.out.2.2.1; have HB1 := hid hB1; have HT1 := hid ht1; clear hB1 ht1))
    have hX2 := HX1.out.set ((at_ : Int) + 3)
    have hB2 := HB1.out.other HX1.out.2.2.1 (by omega) (by simp) (fun j hj => Below.heap_setCell W1 ⟨w.heap.size + 1 + 1 + 1, 0, none⟩ (.int .i64 ((at_ : Int) + 3)) j hj)
    have hK2 := (turn_keeps HT1.out HB.out).trans (KeepsOthers.setCell W1 ⟨w.heap.size + 1 + 1 + 1, 0, none⟩ (.int .i64 ((at_ : Int) + 3)))
    have hb2 := (Hb.out.trans HT1.out.1).setCell (p := ⟨w.heap.size + 1 + 1 + 1, 0, none⟩) (by show _ ≤ w.heap.size + 1 + 1 + 1; omega) (.int .i64 ((at_ : Int) + 3))
    generalize W1.setCell ⟨w.heap.size + 1 + 1 + 1, 0, none⟩ (.int .i64 ((at_ : Int) + 3)) = W2 at *
    obtain ⟨r1, _⟩ := one_cell hX2.1
    obtain ⟨r2, _⟩ := one_cell hX2.2.1
    obtain ⟨r3, _⟩ := one_cell hX2.2.2.1
    have hw2 := hX2.lt
    have HBy := hid (HF.out W2.drew (s.extract at_ (at_ + 3)) c hb2.drew)
    have hel : (s.extract at_ (at_ + 3)).data.toList.length ≤ 3 := by rw [ext_list, List.length_take]; omega
    have hgl := HL.out (s.extract at_ (at_ + 3)).data.toList c hel
    have HGG := hid (fun W => HG.out W _ rfl hgl)
    generalize f (s.extract at_ (at_ + 3)).data.toList c = g at *
    have HG3 : Hid (∀ W3, Below W2.drew.heap.size W2.drew W3 → Calls Try.prog 22 #[.pointer (some ⟨w.heap.size + 1 + 1, 0, none⟩), .string ⟨g.toArray⟩] W3 fun e w' => e = .returned (.tuple #[.int .i64 (ByteArray.mk g.toArray).size, .nilIface]) ∧ Hid (goesOn W0.heap.size (Kept1 (w.heap.size + 1 + 1 + 1 + 1)) (Rep2 f s w (.func (.func 31) #[] #[])) (pre ++ [(at_, c)]) W .normal { tmps := #[], defers := [] } w')) := by
      intro W3 hb3'
      have hb3 : Below W2.heap.size W2 W3 := ⟨hb3'.os, hb3'.tape, hb3'.output, hb3'.size, hb3'.block⟩
      have hB3 : Bu w.heap.size (w.heap.size + 1 + 1) (out ++ (s.extract k at_).data.toList) W3 := hB2.step hb3
      have hz3 := hb3.size
      have hg3 : (ByteArray.mk g.toArray).size = g.length := by simp [ByteArray.size]
      have hz4 := HZ.out
      refine (wstr_any ⟨g.toArray⟩ hB3 (by omega) (by omega)).mono ?_
      rintro e W4 ⟨rfl, hB4, ht4⟩
      have hX4 := (hX2.below hb3).turn ht4
      refine ⟨rfl, ((hK2.trans (bel_keeps hb3)).trans (turn_keeps ht4 hB3)).from _, fun v hv => ?_, HGG.out W4 hX4 ?_ ((hb2.trans (hb3.mono (by omega))).trans ht4.1)⟩
      · have e1 := (one_cell HX.out.2.2.2).1
        rw [e1] at hv
        rw [← hv]; exact (one_cell hX4.2.2.2).1
      · simpa using hB4
    clear HX1 HB1 HT1 hX2 hB2 hK2 hb2 HX HB Hb HG HGG HW hgl hel p1 p3 q3 g3
    have HQ : Hid (((at_ : Int) + 3).toNat = at_ + 3) := by show _ = _; omega
    generalize (⟨g.toArray⟩ : ByteArray) = r at *
    refine region_round (F := Fence.wide) l hmx (by kernel_rfl) ?_
    refine wpAnyIn_take (i := 2) (v := .int .i64 (at_ : Int)) rfl rfl (by kernel_rfl) (by kernel_rfl) (by kernel_rfl) (fun _ _ _ h => h) ⟨Or.inl ⟨by rfl, by (intro w; go_simp)⟩, fun _ => rfl⟩ ?_
    refine wpAnyIn_take (i := 5) (v := .int .u8 (c.toNat : Int)) rfl rfl (by kernel_rfl) (by kernel_rfl) (by kernel_rfl) (fun _ _ _ h => h) ⟨Or.inl ⟨by rfl, by (intro w; go_simp)⟩, fun _ => rfl⟩ ?_
    refine wpAnyIn_ready (rs := [0, 1, 3]) (by kernel_rfl) (by simp) ?_
    refine AllReadyIn.cons rfl (fun K hK => ?_) ?_
    · go_simp
      refine hK _ _ ?_
      clear hK K
      refine wpAnyIn_ready (rs := [1, 3]) (by kernel_rfl) (by simp) ?_
      refine AllReadyIn.cons rfl (fun K hK => ?_) ?_
      · go_simp
        refine hK _ _ ?_
        clear hK K
        refine wpAnyIn_ready (rs := [3]) (by kernel_rfl) (by simp) ?_
        refine AllReadyIn.cons rfl (fun K hK => ?_) ?_
        · go_simp
          refine hK _ _ ?_
          clear hK K
          refine wpAnyIn_take (i := 4) (v := .string (s.extract at_ (at_ + 3))) rfl rfl (by kernel_rfl) (by kernel_rfl) (by kernel_rfl) (fun _ _ _ h => h) ⟨Or.inl ⟨by rfl, by (intro w; go_simp; rw [if_pos (by omega), if_pos (by omega), HQ.out])⟩, fun _ => rfl⟩ ?_
          refine wpAnyIn_ready (rs := [6]) (by kernel_rfl) (by simp) ?_
          refine AllReadyIn.cons rfl (fun K hK => ?_) AllReadyIn.nil
          go_simp
          gi_wp2_with (first | (refine ⟨trivial, ?_⟩; gi_at_call 31; refine (callsIn_wide.2 HBy.out).mono ?_; rintro e W3 ⟨rfl, hb3⟩; have HW3 := hid (HG3.out W3 hb3); clear hb3))
          try (refine hK _ _ ?_; clear hK K)
          refine wpAnyIn_ready (rs := [7]) (by kernel_rfl) (by simp) ?_
          refine AllReadyIn.cons rfl (fun K hK => ?_) AllReadyIn.nil
          go_simp
          gi_wp2_with (first | (refine ⟨trivial, ?_⟩; gi_at_call 22; refine (callsIn_wide.2 HW3.out).mono ?_; rintro e W4 ⟨rfl, hend⟩))
          try (refine hK _ _ ?_; clear hK K)
          refine wpAnyIn_done (by kernel_rfl) ?_ _
          exact hend.out
        exact AllReadyIn.nil
      refine AllReadyIn.cons rfl (fun K hK => ?_) ?_
      · go_simp
        refine hK _ _ ?_
        clear hK K
        refine wpAnyIn_ready (rs := [1]) (by kernel_rfl) (by simp) ?_
        refine AllReadyIn.cons rfl (fun K hK => ?_) ?_
        · go_simp
          refine hK _ _ ?_
          clear hK K
          refine wpAnyIn_take (i := 4) (v := .string (s.extract at_ (at_ + 3))) rfl rfl (by kernel_rfl) (by kernel_rfl) (by kernel_rfl) (fun _ _ _ h => h) ⟨Or.inl ⟨by rfl, by (intro w; go_simp; rw [if_pos (by omega), if_pos (by omega), HQ.out])⟩, fun _ => rfl⟩ ?_
          refine wpAnyIn_ready (rs := [6]) (by kernel_rfl) (by simp) ?_
          refine AllReadyIn.cons rfl (fun K hK => ?_) AllReadyIn.nil
          go_simp
          gi_wp2_with (first | (refine ⟨trivial, ?_⟩; gi_at_call 31; refine (callsIn_wide.2 HBy.out).mono ?_; rintro e W3 ⟨rfl, hb3⟩; have HW3 := hid (HG3.out W3 hb3); clear hb3))
          try (refine hK _ _ ?_; clear hK K)
          refine wpAnyIn_ready (rs := [7]) (by kernel_rfl) (by simp) ?_
          refine AllReadyIn.cons rfl (fun K hK => ?_) AllReadyIn.nil
          go_simp
          gi_wp2_with (first | (refine ⟨trivial, ?_⟩; gi_at_call 22; refine (callsIn_wide.2 HW3.out).mono ?_; rintro e W4 ⟨rfl, hend⟩))
          try (refine hK _ _ ?_; clear hK K)
          refine wpAnyIn_done (by kernel_rfl) ?_ _
          exact hend.out
        exact AllReadyIn.nil
      exact AllReadyIn.nil
    refine AllReadyIn.cons rfl (fun K hK => ?_) ?_
    · go_simp
      refine hK _ _ ?_
      clear hK K
      refine wpAnyIn_ready (rs := [0, 3]) (by kernel_rfl) (by simp) ?_
      refine AllReadyIn.cons rfl (fun K hK => ?_) ?_
      · go_simp
        refine hK _ _ ?_
        clear hK K
        refine wpAnyIn_ready (rs := [3]) (by kernel_rfl) (by simp) ?_
        refine AllReadyIn.cons rfl (fun K hK => ?_) ?_
        · go_simp
          refine hK _ _ ?_
          clear hK K
          refine wpAnyIn_take (i := 4) (v := .string (s.extract at_ (at_ + 3))) rfl rfl (by kernel_rfl) (by kernel_rfl) (by kernel_rfl) (fun _ _ _ h => h) ⟨Or.inl ⟨by rfl, by (intro w; go_simp; rw [if_pos (by omega), if_pos (by omega), HQ.out])⟩, fun _ => rfl⟩ ?_
          refine wpAnyIn_ready (rs := [6]) (by kernel_rfl) (by simp) ?_
          refine AllReadyIn.cons rfl (fun K hK => ?_) AllReadyIn.nil
          go_simp
          gi_wp2_with (first | (refine ⟨trivial, ?_⟩; gi_at_call 31; refine (callsIn_wide.2 HBy.out).mono ?_; rintro e W3 ⟨rfl, hb3⟩; have HW3 := hid (HG3.out W3 hb3); clear hb3))
          try (refine hK _ _ ?_; clear hK K)
          refine wpAnyIn_ready (rs := [7]) (by kernel_rfl) (by simp) ?_
          refine AllReadyIn.cons rfl (fun K hK => ?_) AllReadyIn.nil
          go_simp
          gi_wp2_with (first | (refine ⟨trivial, ?_⟩; gi_at_call 22; refine (callsIn_wide.2 HW3.out).mono ?_; rintro e W4 ⟨rfl, hend⟩))
          try (refine hK _ _ ?_; clear hK K)
          refine wpAnyIn_done (by kernel_rfl) ?_ _
          exact hend.out
        exact AllReadyIn.nil
      refine AllReadyIn.cons rfl (fun K hK => ?_) ?_
      · go_simp
        refine hK _ _ ?_
        clear hK K
        refine wpAnyIn_take (i := 4) (v := .string (s.extract at_ (at_ + 3))) rfl rfl (by kernel_rfl) (by kernel_rfl) (by kernel_rfl) (fun _ _ _ h => h) ⟨Or.inl ⟨by rfl, by (intro w; go_simp; rw [if_pos (by omega), if_pos (by omega), HQ.out])⟩, fun _ => rfl⟩ ?_
        refine wpAnyIn_ready (rs := [0]) (by kernel_rfl) (by simp) ?_
        refine AllReadyIn.cons rfl (fun K hK => ?_) ?_
        · go_simp
          refine hK _ _ ?_
          clear hK K
          refine wpAnyIn_ready (rs := [6]) (by kernel_rfl) (by simp) ?_
          refine AllReadyIn.cons rfl (fun K hK => ?_) AllReadyIn.nil
          go_simp
          gi_wp2_with (first | (refine ⟨trivial, ?_⟩; gi_at_call 31; refine (callsIn_wide.2 HBy.out).mono ?_; rintro e W3 ⟨rfl, hb3⟩; have HW3 := hid (HG3.out W3 hb3); clear hb3))
          try (refine hK _ _ ?_; clear hK K)
          refine wpAnyIn_ready (rs := [7]) (by kernel_rfl) (by simp) ?_
          refine AllReadyIn.cons rfl (fun K hK => ?_) AllReadyIn.nil
          go_simp
          gi_wp2_with (first | (refine ⟨trivial, ?_⟩; gi_at_call 22; refine (callsIn_wide.2 HW3.out).mono ?_; rintro e W4 ⟨rfl, hend⟩))
          try (refine hK _ _ ?_; clear hK K)
          refine wpAnyIn_done (by kernel_rfl) ?_ _
          exact hend.out
        exact AllReadyIn.nil
      exact AllReadyIn.nil
    refine AllReadyIn.cons rfl (fun K hK => ?_) ?_
    · go_simp
      refine hK _ _ ?_
      clear hK K
      refine wpAnyIn_ready (rs := [0, 1]) (by kernel_rfl) (by simp) ?_
      refine AllReadyIn.cons rfl (fun K hK => ?_) ?_
      · go_simp
        refine hK _ _ ?_
        clear hK K
        refine wpAnyIn_ready (rs := [1]) (by kernel_rfl) (by simp) ?_
        refine AllReadyIn.cons rfl (fun K hK => ?_) ?_
        · go_simp
          refine hK _ _ ?_
          clear hK K
          refine wpAnyIn_take (i := 4) (v := .string (s.extract at_ (at_ + 3))) rfl rfl (by kernel_rfl) (by kernel_rfl) (by kernel_rfl) (fun _ _ _ h => h) ⟨Or.inl ⟨by rfl, by (intro w; go_simp; rw [if_pos (by omega), if_pos (by omega), HQ.out])⟩, fun _ => rfl⟩ ?_
          refine wpAnyIn_ready (rs := [6]) (by kernel_rfl) (by simp) ?_
          refine AllReadyIn.cons rfl (fun K hK => ?_) AllReadyIn.nil
          go_simp
          gi_wp2_with (first | (refine ⟨trivial, ?_⟩; gi_at_call 31; refine (callsIn_wide.2 HBy.out).mono ?_; rintro e W3 ⟨rfl, hb3⟩; have HW3 := hid (HG3.out W3 hb3); clear hb3))
          try (refine hK _ _ ?_; clear hK K)
          refine wpAnyIn_ready (rs := [7]) (by kernel_rfl) (by simp) ?_
          refine AllReadyIn.cons rfl (fun K hK => ?_) AllReadyIn.nil
          go_simp
          gi_wp2_with (first | (refine ⟨trivial, ?_⟩; gi_at_call 22; refine (callsIn_wide.2 HW3.out).mono ?_; rintro e W4 ⟨rfl, hend⟩))
          try (refine hK _ _ ?_; clear hK K)
          refine wpAnyIn_done (by kernel_rfl) ?_ _
          exact hend.out
        exact AllReadyIn.nil
      refine AllReadyIn.cons rfl (fun K hK => ?_) ?_
      · go_simp
        refine hK _ _ ?_
        clear hK K
        refine wpAnyIn_take (i := 4) (v := .string (s.extract at_ (at_ + 3))) rfl rfl (by kernel_rfl) (by kernel_rfl) (by kernel_rfl) (fun _ _ _ h => h) ⟨Or.inl ⟨by rfl, by (intro w; go_simp; rw [if_pos (by omega), if_pos (by omega), HQ.out])⟩, fun _ => rfl⟩ ?_
        refine wpAnyIn_ready (rs := [0]) (by kernel_rfl) (by simp) ?_
        refine AllReadyIn.cons rfl (fun K hK => ?_) ?_
        · go_simp
          refine hK _ _ ?_
          clear hK K
          refine wpAnyIn_ready (rs := [6]) (by kernel_rfl) (by simp) ?_
          refine AllReadyIn.cons rfl (fun K hK => ?_) AllReadyIn.nil
          go_simp
          gi_wp2_with (first | (refine ⟨trivial, ?_⟩; gi_at_call 31; refine (callsIn_wide.2 HBy.out).mono ?_; rintro e W3 ⟨rfl, hb3⟩; have HW3 := hid (HG3.out W3 hb3); clear hb3))
          try (refine hK _ _ ?_; clear hK K)
          refine wpAnyIn_ready (rs := [7]) (by kernel_rfl) (by simp) ?_
          refine AllReadyIn.cons rfl (fun K hK => ?_) AllReadyIn.nil
          go_simp
          gi_wp2_with (first | (refine ⟨trivial, ?_⟩; gi_at_call 22; refine (callsIn_wide.2 HW3.out).mono ?_; rintro e W4 ⟨rfl, hend⟩))
          try (refine hK _ _ ?_; clear hK K)
          refine wpAnyIn_done (by kernel_rfl) ?_ _
          exact hend.out
        exact AllReadyIn.nil
      exact AllReadyIn.nil
    exact AllReadyIn.nil
  case done =>
    rintro D xs W hD rfl ⟨k, out, hk, hol, he, hr, hX, hB, hb⟩ hK
    clear hT h0
    have hnil : escs k (s.data.toList.drop k) = [] := List.append_cancel_left (he.trans (List.append_nil _).symm)
    rw [escs_end f s _ k rfl hk hnil, ← ext_end] at hr
    have hBl := hb.size
    have hWl := hX.lt
    have hw := wstr_any (s.extract k s.size) hB (by omega) (by rw [ext_size]; omega)
    rw [hr] at hw
    have HW := hid hw
    obtain ⟨p1, _⟩ := one_cell hX.1
    obtain ⟨p3, _⟩ := one_cell hX.2.2.1
    have HK := hid hK
    have HB := hid hB
    have Hb := hid hb
    have hk1 : (k : Int) ≤ (s.size : Int) := by omega
    clear he hr hX hB hb hnil hK hw
    generalize hrr : repl f s.data.toList = rr at *
    have HRR := hid hrr
    clear hrr
    gi_wp2_with (first | (refine ⟨trivial, ?_⟩; gi_at_call 22; refine (callsIn_wide.2 HW.out).mono ?_; rintro e W1 ⟨rfl, hB1, ht1⟩; have HB1 := hid hB1; have HT1 := hid ht1; have hz1 := ht1.1.size; clear hB1 ht1) | (refine ⟨trivial, ?_⟩; gi_at_call 23; refine (callsIn_wide.2 (bstr_bu HB1.out (by omega))).mono ?_; rintro e W2 ⟨rfl, ht2⟩; have HT2 := hid ht2; clear ht2))
    have hk3 := ((turn_keeps HT1.out HB.out).trans (turn_keeps HT2.out HB1.out)).same D _ HK.out rfl
    refine ⟨by simp, .inl ⟨_, _, rfl, run_takeDeferred hk3, ?_⟩⟩
    exact ⟨_, results_tmp rfl _ _ _, by (rw [HRR.out]; rfl), ((Hb.out.trans HT1.out.1).trans HT2.out.1).trans (belowK_b (w := w) (Nat.le_refl _) W2 D _ _ (by omega) hk3 rfl rfl)⟩
end Go.Proofs.Ythdchapieninbaa
