import Derived.Test.YtclcmkklonnalaaGreatPr13
import Derived.Great.CaseRows
namespace Go.Proofs.YtclcmkklonnalaaGreat.Pr
open Go.RowKit Go.Great

/-- The place in the Go text that a function's first and second region name. -/
def posA (f : Func) : String :=
  match f.body with
  | some (.seq (.region _ ops _) _) => (ops[0]?.map (fun o => o.pos)).getD ""
  | _ => ""
def posB (f : Func) : String :=
  match f.body with
  | some (.seq _ (.seq (.region _ ops _) _)) => (ops[0]?.map (fun o => o.pos)).getD ""
  | _ => ""

/-- A row of the reference: three ints. -/
def rc3 (x : R3) : List Value := [.int .i64 x.1, .int .i64 x.2.1, .int .i64 x.2.2]

/-- The operations that build the reference's rows, one each. -/
def rlOps (pos : String) : Nat → List R3 → List Oper
  | _, [] => []
  | d, x :: xs =>
    { dst := some d, op := .build 147 #[(0, .const (.int .i64 x.1)), (1, .const (.int .i64 x.2.1)), (2, .const (.int .i64 x.2.2))], type := 147, pos := pos, after := #[], guard := none } ::
    rlOps pos (d + 1) xs

theorem rbuilt3 (x : R3) : Tryz.prog.built 147 [(0, .int .i64 x.1), (1, .int .i64 x.2.1), (2, .int .i64 x.2.2)] = some (rc3 x).toArray := by kernel_rfl

theorem wpList_rls {ops : Array Oper} {rest : List Oper} {w : World} {Q : Exit → Act → World → Prop} (pos : String) :
    ∀ (xs : List R3) (d : Nat) (a : Act), d + xs.length ≤ a.tmps.size →
      (∀ a' : Act, a'.tmps.size = a.tmps.size → a'.defers = a.defers → (∀ i (h : i < xs.length), a'.eval (.tmp (d + i)) = .agg (rc3 xs[i]).toArray) →
        (∀ j, j < d → a'.eval (.tmp j) = a.eval (.tmp j)) → wpList Tryz.prog ops Q rest a' w) →
      wpList Tryz.prog ops Q (rlOps pos d xs ++ rest) a w
  | [], d, a, _, h => h a rfl rfl (fun i hi => absurd hi (by simp)) (fun _ _ => rfl)
  | x :: xs, d, a, hd, h => by
    have hlt : d < a.tmps.size := by simp at hd; omega
    show wpList Tryz.prog ops Q (_ :: (rlOps pos (d + 1) xs ++ rest)) a w
    refine wpList_buildTo rfl 147 _ rfl (some d) rfl (rc3 x).toArray (by simpa [Act.eval] using rbuilt3 x) ?_
    refine wpList_rls pos xs (d + 1) _ (by rw [Act.size_put]; simp at hd; omega) fun a' hs hdf hev hlow => ?_
    refine h a' (by rw [hs, Act.size_put]) (by rw [hdf, Act.defers_put']) (fun i hi => ?_) (fun j hj => ?_)
    · cases i with
      | zero => rw [show d + 0 = d by omega, hlow d (by omega), Act.eval_put_same _ _ _ (by omega)]; rfl
      | succ i =>
        have := hev i (by simpa using hi)
        rw [show d + (i + 1) = d + 1 + i by omega, this]
        rfl
    · rw [hlow j (by omega), Act.eval_put_ne _ _ _ _ (by omega)]

/-- The last two operations: the slice of the lines, and the answer. -/
def rlitEnd (p2 : String) (n : Nat) : List Oper :=
  [{ dst := some (n + 1), op := .buildSlice 50 n ((List.range n).map fun i => (i, Operand.tmp (1 + i))).toArray, type := 50, pos := p2, after := ((List.range n).map fun i => ⟨i, .data⟩).toArray, guard := none },
   { dst := some 0, op := .assign (.tmp (n + 1)), type := 50, pos := p2, after := (⟨n, .data⟩ :: (List.range (n + 1)).map fun i => ⟨i, .phase⟩).toArray, guard := none }]

def rlitStart (p1 : String) : List Oper := [{ dst := some 0, op := .assign (.const (.slice none 0 0)), type := 50, pos := p1, after := #[], guard := none }]

/-- The body of a function that is one literal of rows. -/
def rlitBody (p1 p2 : String) (T : List R3) : Code :=
  .seq (.region 0 (rlitStart p1).toArray false) (.seq (.region 1 (rlOps p2 1 T ++ rlitEnd p2 T.length).toArray false) .ret)

/-- What such a function tells: a new block of the rows' cells, and a slice of it. -/
theorem rlit_calls {f : FuncId} {fn : Func} (p1 p2 : String) (T : List R3) (w : World) (hf : Tryz.prog.funcs[f]? = some fn) (hb : fn.body = some (rlitBody p1 p2 T)) (hr : fn.results = #[.tmp 0]) (hn : fn.ntmps = T.length + 2)
    (hpos : 0 < T.length) (hsmall : T.length * 3 ≤ 2 ^ 24) :
    Calls Tryz.prog f #[] w fun e w' => e = .returned (.slice (some ⟨w.heap.size, 0, none⟩) T.length T.length) ∧ w' = w.alloc (.cells (T.flatMap rc3).toArray 147) := by
  refine calls_of_wp hf hb ?_
  refine wp_anyFrame (T.length + 2) (by simp [hn]) rfl fun a0 hs0 hd0 => ?_
  unfold rlitBody
  apply wp_seq_k; intro K0 hK0
  apply wp_region_lit
  unfold rlitStart
  refine wpList_readTo rfl (some 0) rfl (.slice none 0 0) rfl ?_
  apply wpList_nil
  refine hK0 _ _ ?_
  refine wp_anyFrame (T.length + 2) (by simp only [Act.size_put, hs0]) (by simp only [Act.defers_put', hd0]) fun a1 hs1 hd1 => ?_
  clear hK0 K0
  apply wp_seq_k; intro K1 hK1
  apply wp_region_lit
  refine wpList_rls p2 T 1 a1 (by omega) fun b hbs hbd hev _ => ?_
  have hl : (T.map fun x => Value.agg (rc3 x).toArray).length = T.length := by simp
  have hfl : ((T.map fun x => Value.agg (rc3 x).toArray).flatMap fun v => v.cells.toList) = T.flatMap rc3 := by simp [List.flatMap_map, Value.cells]
  unfold rlitEnd
  refine wpList_buildRows rfl 50 147 _ 3 (T.map fun x => Value.agg (rc3 x).toArray) (by rw [hl]) (fun i => 1 + i) w.heap.size rfl (some (T.length + 1)) rfl (by kernel_rfl) (by kernel_rfl) (by kernel_rfl) (by omega) (by rw [hl]; exact hpos) (by rw [hl]; exact hsmall)
    (by rw [hl]) (fun v hv => by obtain ⟨x, _, rfl⟩ := List.mem_map.1 hv; rfl) (fun i hi => by rw [hev i (by simpa using hi)]; simp) ?_
  rw [hl, hfl]
  refine wpList_readTo rfl (some 0) rfl (.slice (some ⟨w.heap.size, 0, none⟩) T.length T.length) ?_ ?_
  · show Sem.run _ _ _ = _
    simp only [execOp]
    rw [Act.eval_put_same _ _ _ (by omega)]
    rfl
  apply wpList_nil
  refine hK1 _ _ ?_
  refine wp_ret (bodyPost_ret (results_tmp hr _ _ _) (by simp only [Act.defers_put', hbd, hd1]) ?_)
  refine ⟨?_, rfl⟩
  have := Act.eval_put_same (b.put (some (T.length + 1)) (.slice (some ⟨w.heap.size, 0, none⟩) T.length T.length)) 0 (.slice (some ⟨w.heap.size, 0, none⟩) T.length T.length) (by rw [Act.size_put]; omega)
  exact congrArg Ending.returned this

theorem rsingles_any (w : World) : Calls Tryz.prog 55 #[] w fun e w' => e = .returned (.slice (some ⟨w.heap.size, 0, none⟩) singT.length singT.length) ∧ w' = w.alloc (.cells (singT.flatMap rc3).toArray 147) :=
  rlit_calls (posA Tryz.f55) (posB Tryz.f55) singT w Tryz.func55 (by kernel_rfl) rfl (by kernel_rfl) (by decide) (by decide)

theorem rpairs0_any (w : World) : Calls Tryz.prog 56 #[] w fun e w' => e = .returned (.slice (some ⟨w.heap.size, 0, none⟩) pairT0.length pairT0.length) ∧ w' = w.alloc (.cells (pairT0.flatMap rc3).toArray 147) :=
  rlit_calls (posA Tryz.f56) (posB Tryz.f56) pairT0 w Tryz.func56 (by kernel_rfl) rfl (by kernel_rfl) (by decide) (by decide)

theorem rpairs1_any (w : World) : Calls Tryz.prog 57 #[] w fun e w' => e = .returned (.slice (some ⟨w.heap.size, 0, none⟩) pairT1.length pairT1.length) ∧ w' = w.alloc (.cells (pairT1.flatMap rc3).toArray 147) :=
  rlit_calls (posA Tryz.f57) (posB Tryz.f57) pairT1 w Tryz.func57 (by kernel_rfl) rfl (by kernel_rfl) (by decide) (by decide)

theorem rpairs2_any (w : World) : Calls Tryz.prog 58 #[] w fun e w' => e = .returned (.slice (some ⟨w.heap.size, 0, none⟩) pairT2.length pairT2.length) ∧ w' = w.alloc (.cells (pairT2.flatMap rc3).toArray 147) :=
  rlit_calls (posA Tryz.f58) (posB Tryz.f58) pairT2 w Tryz.func58 (by kernel_rfl) rfl (by kernel_rfl) (by decide) (by decide)

theorem rpairs3_any (w : World) : Calls Tryz.prog 59 #[] w fun e w' => e = .returned (.slice (some ⟨w.heap.size, 0, none⟩) pairT3.length pairT3.length) ∧ w' = w.alloc (.cells (pairT3.flatMap rc3).toArray 147) :=
  rlit_calls (posA Tryz.f59) (posB Tryz.f59) pairT3 w Tryz.func59 (by kernel_rfl) rfl (by kernel_rfl) (by decide) (by decide)

theorem rpairs4_any (w : World) : Calls Tryz.prog 60 #[] w fun e w' => e = .returned (.slice (some ⟨w.heap.size, 0, none⟩) pairT4.length pairT4.length) ∧ w' = w.alloc (.cells (pairT4.flatMap rc3).toArray 147) :=
  rlit_calls (posA Tryz.f60) (posB Tryz.f60) pairT4 w Tryz.func60 (by kernel_rfl) rfl (by kernel_rfl) (by decide) (by decide)

theorem rpairs5_any (w : World) : Calls Tryz.prog 61 #[] w fun e w' => e = .returned (.slice (some ⟨w.heap.size, 0, none⟩) pairT5.length pairT5.length) ∧ w' = w.alloc (.cells (pairT5.flatMap rc3).toArray 147) :=
  rlit_calls (posA Tryz.f61) (posB Tryz.f61) pairT5 w Tryz.func61 (by kernel_rfl) rfl (by kernel_rfl) (by decide) (by decide)

theorem rpairs6_any (w : World) : Calls Tryz.prog 62 #[] w fun e w' => e = .returned (.slice (some ⟨w.heap.size, 0, none⟩) pairT6.length pairT6.length) ∧ w' = w.alloc (.cells (pairT6.flatMap rc3).toArray 147) :=
  rlit_calls (posA Tryz.f62) (posB Tryz.f62) pairT6 w Tryz.func62 (by kernel_rfl) rfl (by kernel_rfl) (by decide) (by decide)

theorem Tryz.info_rr3 : (Tryz.prog.info? 147).map (fun i => (i.zero, i.size, i.bytes)) = some (some (.agg #[.int .i64 0, .int .i64 0, .int .i64 0]), 3, 24) := by kernel_rfl
theorem rc3_len (l : List R3) : (l.flatMap rc3).length = l.length * 3 := by
  induction l with
  | nil => rfl
  | cons x l ih => simp only [List.flatMap_cons, List.length_append, ih, List.length_cons, rc3, List.length_nil]; omega
theorem rc3_one (l : List R3) : ∀ u ∈ l.flatMap rc3, u.oneCell' = true := by
  intro u hu
  obtain ⟨x, _, hx⟩ := List.mem_flatMap.1 hu
  simp [rc3] at hx
  rcases hx with rfl | rfl | rfl <;> rfl

theorem wpList_rapp {ops : Array Oper} {rest : List Oper} {o : Oper} {a : Act} {Q : Exit → Act → World → Prop} (hgd : o.guard = none) (s x : Operand)
    (ho : o.op = .call { callee := .builtin .append, args := #[s, x], argTypes := #[50, 50] }) (W : World) (B : Nat) (v : Value) (n : Nat) (A T : List R3) (hA : A.length = n) (hs : a.eval s = v) (hx : a.eval x = .slice (some ⟨W.heap.size, 0, none⟩) T.length T.length)
    (hown : W.ownsRow B 147 3 v n (A.flatMap rc3)) (hn : A.length + T.length ≤ 5000) (hB : B ≤ W.heap.size)
    (h : ∀ v' w' m, Hid ((A ++ T).length = m) → w'.ownsRow B 147 3 v' m ((A ++ T).flatMap rc3) → Below B W w' → wpList Tryz.prog ops Q rest (a.put o.dst v') w') :
    wpList Tryz.prog ops Q (o :: rest) a (W.alloc (.cells (T.flatMap rc3).toArray 147)) := by
  subst hA
  obtain ⟨i0, hi, hz0, hz1, hz2⟩ := info_parts Tryz.info_rr3
  refine wpList_append_own_at _ hgd s x 50 ho B 147 i0 (.agg #[.int .i64 0, .int .i64 0, .int .i64 0]) 3 24 Tryz.underlying50 hi hz0 hz1 hz2 rfl (by decide) v A.length (A.flatMap rc3) hs (hown.alloc _) ⟨W.heap.size, 0, none⟩ T.length T.length (T.flatMap rc3) hx (rc3_len T)
    (World.news_of_block (heap_alloc_new W _)) (rc3_one T) (by unfold maxLen; omega) (by omega) (by simp; omega) (fun v' w' h1 h2 _ _ => h v' w' _ rfl ?_ ?_)
  · rw [List.length_append, List.flatMap_append]; exact h1
  · exact ((Below.refl _ _).alloc hB _).trans (below_of_grown h2 B (by simp; omega) (fun k e => (hown.lt k e).1))

theorem own_new (w : World) (T : List R3) (h : T.length ≤ 5000) : (w.alloc (.cells (T.flatMap rc3).toArray 147)).ownsRow w.heap.size 147 3 (.slice (some ⟨w.heap.size, 0, none⟩) T.length T.length) T.length (T.flatMap rc3) :=
  ⟨rc3_len T, .inr ⟨w.heap.size, T.length, _, rfl, Nat.le_refl _, heap_alloc_new w _, Nat.le_refl _, by unfold maxLen; omega, by rw [List.size_toArray, rc3_len], by show (T.flatMap rc3).take (T.length * 3) = _; rw [List.take_of_length_le (Nat.le_of_eq (rc3_len T))]⟩⟩

theorem parts_all : singT ++ pairT0 ++ pairT1 ++ pairT2 ++ pairT3 ++ pairT4 ++ pairT5 ++ pairT6 = allP := by unfold allP pairT; simp only [List.append_assoc]

set_option maxHeartbeats 2000000 in
set_option maxRecDepth 100000 in
theorem rall_any (w : World) : Calls Tryz.prog 29 #[] w fun e w' => ∃ v, e = .returned v ∧ w'.ownsRow w.heap.size 147 3 v allP.length (allP.flatMap rc3) ∧ Below w.heap.size w w' := by
  have HSg := hid (fun w => rsingles_any w)
  have lS : singT.length ≤ 60 := by decide
  have H0 := hid (fun w => rpairs0_any w)
  have l0 : pairT0.length ≤ 60 := by decide
  have H1 := hid (fun w => rpairs1_any w)
  have l1 : pairT1.length ≤ 60 := by decide
  have H2 := hid (fun w => rpairs2_any w)
  have l2 : pairT2.length ≤ 60 := by decide
  have H3 := hid (fun w => rpairs3_any w)
  have l3 : pairT3.length ≤ 60 := by decide
  have H4 := hid (fun w => rpairs4_any w)
  have l4 : pairT4.length ≤ 60 := by decide
  have H5 := hid (fun w => rpairs5_any w)
  have l5 : pairT5.length ≤ 60 := by decide
  have H6 := hid (fun w => rpairs6_any w)
  have l6 : pairT6.length ≤ 60 := by decide
  have HO0 := hid (own_new w singT (by omega))
  have HB0 := hid ((Below.refl w.heap.size w).alloc (Nat.le_refl _) (.cells (singT.flatMap rc3).toArray 147))
  rw [← parts_all]
  generalize singT = S at *
  generalize pairT0 = T0 at *
  generalize pairT1 = T1 at *
  generalize pairT2 = T2 at *
  generalize pairT3 = T3 at *
  generalize pairT4 = T4 at *
  generalize pairT5 = T5 at *
  generalize pairT6 = T6 at *
  obtain ⟨n0, hn0⟩ : ∃ n, S.length = n := ⟨_, rfl⟩
  have hn0 := hid hn0
  rw [hn0.out] at HO0 HSg
  go_enter Tryz.func29, Tryz.ntmps29
  go_wp2_with (first | (go_at_call 55; refine (HSg.out _).mono ?_; rintro e w' ⟨rfl, rfl⟩) | (go_at_call 56; refine (H0.out _).mono ?_; rintro e w' ⟨rfl, rfl⟩) | (at_builtin; refine wpList_rapp rfl (.tmp 3) (.tmp 4) rfl (w.alloc (.cells (S.flatMap rc3).toArray 147)) w.heap.size (.slice (some ⟨w.heap.size, 0, none⟩) n0 n0) n0 (S) T0 hn0.out rfl (by simp [Act.eval]) HO0.out (by have := hn0.out; simp; omega) HB0.out.size ?_; intro v1 w1 n1 hn1 ho hb; have HO1 := hid ho; have HB1 := hid (HB0.out.trans hb); clear ho hb; obtain ⟨ao1, cap1, rfl⟩ := own_slice HO1.out))
  go_wp2_with (first | (go_at_call 57; refine (H1.out _).mono ?_; rintro e w' ⟨rfl, rfl⟩) | (at_builtin; refine wpList_rapp rfl (.tmp 6) (.tmp 7) rfl w1 w.heap.size (.slice ao1 n1 cap1) n1 (S ++ T0) T1 hn1.out rfl (by exact rfl) HO1.out (by have := hn0.out; simp; omega) HB1.out.size ?_; intro v2 w2 n2 hn2 ho hb; have HO2 := hid ho; have HB2 := hid (HB1.out.trans hb); clear ho hb; obtain ⟨ao2, cap2, rfl⟩ := own_slice HO2.out))
  go_wp2_with (first | (go_at_call 58; refine (H2.out _).mono ?_; rintro e w' ⟨rfl, rfl⟩) | (at_builtin; refine wpList_rapp rfl (.tmp 9) (.tmp 10) rfl w2 w.heap.size (.slice ao2 n2 cap2) n2 (S ++ T0 ++ T1) T2 hn2.out rfl (by exact rfl) HO2.out (by have := hn0.out; simp; omega) HB2.out.size ?_; intro v3 w3 n3 hn3 ho hb; have HO3 := hid ho; have HB3 := hid (HB2.out.trans hb); clear ho hb; obtain ⟨ao3, cap3, rfl⟩ := own_slice HO3.out))
  go_wp2_with (first | (go_at_call 59; refine (H3.out _).mono ?_; rintro e w' ⟨rfl, rfl⟩) | (at_builtin; refine wpList_rapp rfl (.tmp 12) (.tmp 13) rfl w3 w.heap.size (.slice ao3 n3 cap3) n3 (S ++ T0 ++ T1 ++ T2) T3 hn3.out rfl (by exact rfl) HO3.out (by have := hn0.out; simp; omega) HB3.out.size ?_; intro v4 w4 n4 hn4 ho hb; have HO4 := hid ho; have HB4 := hid (HB3.out.trans hb); clear ho hb; obtain ⟨ao4, cap4, rfl⟩ := own_slice HO4.out))
  go_wp2_with (first | (go_at_call 60; refine (H4.out _).mono ?_; rintro e w' ⟨rfl, rfl⟩) | (at_builtin; refine wpList_rapp rfl (.tmp 15) (.tmp 16) rfl w4 w.heap.size (.slice ao4 n4 cap4) n4 (S ++ T0 ++ T1 ++ T2 ++ T3) T4 hn4.out rfl (by exact rfl) HO4.out (by have := hn0.out; simp; omega) HB4.out.size ?_; intro v5 w5 n5 hn5 ho hb; have HO5 := hid ho; have HB5 := hid (HB4.out.trans hb); clear ho hb; obtain ⟨ao5, cap5, rfl⟩ := own_slice HO5.out))
  go_wp2_with (first | (go_at_call 61; refine (H5.out _).mono ?_; rintro e w' ⟨rfl, rfl⟩) | (at_builtin; refine wpList_rapp rfl (.tmp 18) (.tmp 19) rfl w5 w.heap.size (.slice ao5 n5 cap5) n5 (S ++ T0 ++ T1 ++ T2 ++ T3 ++ T4) T5 hn5.out rfl (by exact rfl) HO5.out (by have := hn0.out; simp; omega) HB5.out.size ?_; intro v6 w6 n6 hn6 ho hb; have HO6 := hid ho; have HB6 := hid (HB5.out.trans hb); clear ho hb; obtain ⟨ao6, cap6, rfl⟩ := own_slice HO6.out))
  go_wp2_with (first | (go_at_call 62; refine (H6.out _).mono ?_; rintro e w' ⟨rfl, rfl⟩) | (at_builtin; refine wpList_rapp rfl (.tmp 21) (.tmp 22) rfl w6 w.heap.size (.slice ao6 n6 cap6) n6 (S ++ T0 ++ T1 ++ T2 ++ T3 ++ T4 ++ T5) T6 hn6.out rfl (by exact rfl) HO6.out (by have := hn0.out; simp; omega) HB6.out.size ?_; intro v7 w7 n7 hn7 ho hb; have HO7 := hid ho; have HB7 := hid (HB6.out.trans hb); clear ho hb; obtain ⟨ao7, cap7, rfl⟩ := own_slice HO7.out))
  go_ret
  exact ⟨_, rfl, by have := HO7.out; rw [← hn7.out] at this; rw [← hn7.out]; exact this, HB7.out⟩
end Go.Proofs.YtclcmkklonnalaaGreat.Pr
