import Derived.Test.YtfbphacbnmimkaaUcd17
namespace Go.Proofs.Ytfbphacbnmimkaa
open Go.RowKit

theorem Try.info_r7 : (Try.prog.info? 26).map (fun i => (i.zero, i.size, i.bytes)) = some (some (.agg #[.int .i64 0, .int .i64 0, .int .i64 0, .int .i64 0, .int .i64 0, .int .i64 0, .int .i64 0]), 7, 56) := by kernel_rfl

theorem rcells7_one (l : List Ln) : ∀ u ∈ l.flatMap rcells7, u.oneCell' = true := by
  intro u hu
  obtain ⟨x, _, hx⟩ := List.mem_flatMap.1 hu
  simp [rcells7] at hx
  rcases hx with rfl | rfl | rfl | rfl | rfl | rfl | rfl <;> rfl

theorem wpList_rapp {ops : Array Oper} {rest : List Oper} {o : Oper} {a : Act} {Q : Exit → Act → World → Prop} (hgd : o.guard = none) (s x : Operand)
    (ho : o.op = .call { callee := .builtin .append, args := #[s, x], argTypes := #[49, 49] }) (W : World) (B : Nat) (v : Value) (n : Nat) (A T : List Ln) (hA : A.length = n) (hs : a.eval s = v) (hx : a.eval x = .slice (some ⟨W.heap.size, 0, none⟩) T.length T.length)
    (hown : W.ownsRow B 26 7 v n (A.flatMap rcells7)) (hn : A.length + T.length ≤ 5000) (hB : B ≤ W.heap.size)
    (h : ∀ v' w' m, Hid ((A ++ T).length = m) → w'.ownsRow B 26 7 v' m ((A ++ T).flatMap rcells7) → Below B W w' → wpList Try.prog ops Q rest (a.put o.dst v') w') :
    wpList Try.prog ops Q (o :: rest) a (W.alloc (.cells (T.flatMap rcells7).toArray 26)) := by
  subst hA
  obtain ⟨i0, hi, hz0, hz1, hz2⟩ := info_parts Try.info_r7
  refine wpList_append_own_at _ hgd s x 49 ho B 26 i0 (.agg #[.int .i64 0, .int .i64 0, .int .i64 0, .int .i64 0, .int .i64 0, .int .i64 0, .int .i64 0]) 7 56 Try.underlying49 hi hz0 hz1 hz2 rfl (by decide) v A.length (A.flatMap rcells7) hs (hown.alloc _) ⟨W.heap.size, 0, none⟩ T.length T.length (T.flatMap rcells7) hx (rcells7_len T)
    (World.news_of_block (heap_alloc_new W _)) (rcells7_one T) (by unfold maxLen; omega) (by omega) (by simp; omega) (fun v' w' h1 h2 _ _ => h v' w' _ rfl ?_ ?_)
  · rw [List.length_append, List.flatMap_append]; exact h1
  · exact ((Below.refl _ _).alloc hB _).trans (below_of_grown h2 B (by simp; omega) (fun k e => (hown.lt k e).1))

set_option maxRecDepth 1000000 in
theorem parts_all : part 0 ++ part 1 ++ part 2 ++ part 3 ++ part 4 ++ part 5 ++ part 6 = allT := by kernel_rfl

set_option maxHeartbeats 2000000 in
set_option maxRecDepth 100000 in
theorem rall_any (w : World) : Calls Try.prog 33 #[] w fun e w' => ∃ v, e = .returned v ∧ w'.ownsRow w.heap.size 26 7 v allT.length (allT.flatMap rcells7) ∧ Below w.heap.size w w' := by
  have hp : ∀ i, (part i).length ≤ 30 := fun i => List.length_take_le _ _
  have H0 := hid (fun w => rows0_any w)
  have l0 := hp 0
  have H1 := hid (fun w => rows1_any w)
  have l1 := hp 1
  have H2 := hid (fun w => rows2_any w)
  have l2 := hp 2
  have H3 := hid (fun w => rows3_any w)
  have l3 := hp 3
  have H4 := hid (fun w => rows4_any w)
  have l4 := hp 4
  have H5 := hid (fun w => rows5_any w)
  have l5 := hp 5
  have H6 := hid (fun w => rows6_any w)
  have l6 := hp 6
  rw [← parts_all]
  clear hp
  generalize part 0 = T0 at *
  generalize part 1 = T1 at *
  generalize part 2 = T2 at *
  generalize part 3 = T3 at *
  generalize part 4 = T4 at *
  generalize part 5 = T5 at *
  generalize part 6 = T6 at *
  go_enter Try.func33, Try.ntmps33
  have HB0 := hid (Below.refl w.heap.size w)
  have HO0 : Hid (w.ownsRow w.heap.size 26 7 (.slice none 0 0) 0 (([] : List Ln).flatMap rcells7)) := World.ownsRow_nil _ _ _ _
  go_wp2_with (first | (go_at_call 24; refine (H0.out _).mono ?_; rintro e w' ⟨rfl, rfl⟩) | (at_builtin; refine wpList_rapp rfl (.tmp 2) (.tmp 3) rfl w w.heap.size (.slice none 0 0) 0 (([] : List Ln)) T0 rfl rfl rfl HO0.out (by simp; omega) HB0.out.size ?_; intro v1 w1 n1 hn1 ho hb; have HO1 := hid ho; have HB1 := hid (HB0.out.trans hb); clear ho hb; obtain ⟨ao1, cap1, rfl⟩ := own_slice HO1.out))
  go_wp2_with (first | (go_at_call 25; refine (H1.out _).mono ?_; rintro e w' ⟨rfl, rfl⟩) | (at_builtin; refine wpList_rapp rfl (.tmp 5) (.tmp 6) rfl w1 w.heap.size (.slice ao1 n1 cap1) n1 (([] : List Ln) ++ T0) T1 hn1.out rfl rfl HO1.out (by simp; omega) HB1.out.size ?_; intro v2 w2 n2 hn2 ho hb; have HO2 := hid ho; have HB2 := hid (HB1.out.trans hb); clear ho hb; obtain ⟨ao2, cap2, rfl⟩ := own_slice HO2.out))
  go_wp2_with (first | (go_at_call 26; refine (H2.out _).mono ?_; rintro e w' ⟨rfl, rfl⟩) | (at_builtin; refine wpList_rapp rfl (.tmp 8) (.tmp 9) rfl w2 w.heap.size (.slice ao2 n2 cap2) n2 (([] : List Ln) ++ T0 ++ T1) T2 hn2.out rfl rfl HO2.out (by simp; omega) HB2.out.size ?_; intro v3 w3 n3 hn3 ho hb; have HO3 := hid ho; have HB3 := hid (HB2.out.trans hb); clear ho hb; obtain ⟨ao3, cap3, rfl⟩ := own_slice HO3.out))
  go_wp2_with (first | (go_at_call 27; refine (H3.out _).mono ?_; rintro e w' ⟨rfl, rfl⟩) | (at_builtin; refine wpList_rapp rfl (.tmp 11) (.tmp 12) rfl w3 w.heap.size (.slice ao3 n3 cap3) n3 (([] : List Ln) ++ T0 ++ T1 ++ T2) T3 hn3.out rfl rfl HO3.out (by simp; omega) HB3.out.size ?_; intro v4 w4 n4 hn4 ho hb; have HO4 := hid ho; have HB4 := hid (HB3.out.trans hb); clear ho hb; obtain ⟨ao4, cap4, rfl⟩ := own_slice HO4.out))
  go_wp2_with (first | (go_at_call 28; refine (H4.out _).mono ?_; rintro e w' ⟨rfl, rfl⟩) | (at_builtin; refine wpList_rapp rfl (.tmp 14) (.tmp 15) rfl w4 w.heap.size (.slice ao4 n4 cap4) n4 (([] : List Ln) ++ T0 ++ T1 ++ T2 ++ T3) T4 hn4.out rfl rfl HO4.out (by simp; omega) HB4.out.size ?_; intro v5 w5 n5 hn5 ho hb; have HO5 := hid ho; have HB5 := hid (HB4.out.trans hb); clear ho hb; obtain ⟨ao5, cap5, rfl⟩ := own_slice HO5.out))
  go_wp2_with (first | (go_at_call 29; refine (H5.out _).mono ?_; rintro e w' ⟨rfl, rfl⟩) | (at_builtin; refine wpList_rapp rfl (.tmp 17) (.tmp 18) rfl w5 w.heap.size (.slice ao5 n5 cap5) n5 (([] : List Ln) ++ T0 ++ T1 ++ T2 ++ T3 ++ T4) T5 hn5.out rfl rfl HO5.out (by simp; omega) HB5.out.size ?_; intro v6 w6 n6 hn6 ho hb; have HO6 := hid ho; have HB6 := hid (HB5.out.trans hb); clear ho hb; obtain ⟨ao6, cap6, rfl⟩ := own_slice HO6.out))
  go_wp2_with (first | (go_at_call 30; refine (H6.out _).mono ?_; rintro e w' ⟨rfl, rfl⟩) | (at_builtin; refine wpList_rapp rfl (.tmp 20) (.tmp 21) rfl w6 w.heap.size (.slice ao6 n6 cap6) n6 (([] : List Ln) ++ T0 ++ T1 ++ T2 ++ T3 ++ T4 ++ T5) T6 hn6.out rfl rfl HO6.out (by simp; omega) HB6.out.size ?_; intro v7 w7 n7 hn7 ho hb; have HO7 := hid ho; have HB7 := hid (HB6.out.trans hb); clear ho hb; obtain ⟨ao7, cap7, rfl⟩ := own_slice HO7.out))
  go_ret
  exact ⟨_, rfl, by have := HO7.out; rw [← hn7.out] at this; rw [← hn7.out]; exact this, HB7.out⟩
end Go.Proofs.Ytfbphacbnmimkaa
