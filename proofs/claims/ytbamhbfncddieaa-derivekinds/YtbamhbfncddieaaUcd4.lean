import Derived.Test.YtbamhbfncddieaaUcd3
namespace Go.Proofs.Ytbamhbfncddieaa.Uc
open Go.RowKit Go.Great

/-- All lines, in the chapter's order. -/
def allT : List Ln := latinT ++ marksT ++ arabicT ++ devT ++ lastT

/-- A row of the reference: the same seven numbers, each an int. -/
def rcells7 (x : Ln) : List Value := [.int .i64 x.1, .int .i64 x.2.1, .int .i64 x.2.2.1, .int .i64 x.2.2.2.1, .int .i64 x.2.2.2.2.1, .int .i64 x.2.2.2.2.2.1, .int .i64 x.2.2.2.2.2.2]

/-- The operations that build the reference's rows, one each. -/
def rlOps (pos : String) : Nat → List Ln → List Oper
  | _, [] => []
  | d, x :: xs =>
    { dst := some d, op := .build 118 #[(0, .const (.int .i64 x.1)), (1, .const (.int .i64 x.2.1)), (2, .const (.int .i64 x.2.2.1)), (3, .const (.int .i64 x.2.2.2.1)), (4, .const (.int .i64 x.2.2.2.2.1)), (5, .const (.int .i64 x.2.2.2.2.2.1)), (6, .const (.int .i64 x.2.2.2.2.2.2))], type := 118, pos := pos, after := #[], guard := none } ::
    rlOps pos (d + 1) xs

theorem rbuilt7 (x : Ln) : Try.prog.built 118 [(0, .int .i64 x.1), (1, .int .i64 x.2.1), (2, .int .i64 x.2.2.1), (3, .int .i64 x.2.2.2.1), (4, .int .i64 x.2.2.2.2.1), (5, .int .i64 x.2.2.2.2.2.1), (6, .int .i64 x.2.2.2.2.2.2)] = some (rcells7 x).toArray := by kernel_rfl

theorem wpList_rls {ops : Array Oper} {rest : List Oper} {w : World} {Q : Exit → Act → World → Prop} (pos : String) :
    ∀ (xs : List Ln) (d : Nat) (a : Act), d + xs.length ≤ a.tmps.size →
      (∀ a' : Act, a'.tmps.size = a.tmps.size → a'.defers = a.defers → (∀ i (h : i < xs.length), a'.eval (.tmp (d + i)) = .agg (rcells7 xs[i]).toArray) →
        (∀ j, j < d → a'.eval (.tmp j) = a.eval (.tmp j)) → wpList Try.prog ops Q rest a' w) →
      wpList Try.prog ops Q (rlOps pos d xs ++ rest) a w
  | [], d, a, _, h => h a rfl rfl (fun i hi => absurd hi (by simp)) (fun _ _ => rfl)
  | x :: xs, d, a, hd, h => by
    have hlt : d < a.tmps.size := by simp at hd; omega
    show wpList Try.prog ops Q (_ :: (rlOps pos (d + 1) xs ++ rest)) a w
    refine wpList_buildTo rfl 118 _ rfl (some d) rfl (rcells7 x).toArray (by simpa [Act.eval] using rbuilt7 x) ?_
    refine wpList_rls pos xs (d + 1) _ (by rw [Act.size_put]; simp at hd; omega) fun a' hs hdf hev hlow => ?_
    refine h a' (by rw [hs, Act.size_put]) (by rw [hdf, Act.defers_put']) (fun i hi => ?_) (fun j hj => ?_)
    · cases i with
      | zero => rw [show d + 0 = d by omega, hlow d (by omega), Act.eval_put_same _ _ _ (by omega)]; rfl
      | succ i =>
        have := hev i (by simpa using hi)
        rw [show d + (i + 1) = d + 1 + i by omega, this]
        rfl
    · rw [hlow j (by omega), Act.eval_put_ne _ _ _ _ (by omega)]

/-- The last two operations: the slice of the lines, and the answer. -/
def rlitEnd (p2 : String) (n : Nat) : List Oper :=
  [{ dst := some (n + 1), op := .buildSlice 135 n ((List.range n).map fun i => (i, Operand.tmp (1 + i))).toArray, type := 135, pos := p2, after := ((List.range n).map fun i => ⟨i, .data⟩).toArray, guard := none },
   { dst := some 0, op := .assign (.tmp (n + 1)), type := 135, pos := p2, after := (⟨n, .data⟩ :: (List.range (n + 1)).map fun i => ⟨i, .phase⟩).toArray, guard := none }]

def rlitStart (p1 : String) : List Oper := [{ dst := some 0, op := .assign (.const (.slice none 0 0)), type := 135, pos := p1, after := #[], guard := none }]

/-- The body of a function that is one literal of rows. -/
def rlitBody (p1 p2 : String) (T : List Ln) : Code :=
  .seq (.region 0 (rlitStart p1).toArray false) (.seq (.region 1 (rlOps p2 1 T ++ rlitEnd p2 T.length).toArray false) .ret)

/-- What such a function tells: a new block of the rows' cells, and a slice of it. -/
theorem rlit_calls {f : FuncId} {fn : Func} (p1 p2 : String) (T : List Ln) (w : World) (hf : Try.prog.funcs[f]? = some fn) (hb : fn.body = some (rlitBody p1 p2 T)) (hr : fn.results = #[.tmp 0]) (hn : fn.ntmps = T.length + 2)
    (hpos : 0 < T.length) (hsmall : T.length * 7 ≤ 2 ^ 24) :
    Calls Try.prog f #[] w fun e w' => e = .returned (.slice (some ⟨w.heap.size, 0, none⟩) T.length T.length) ∧ w' = w.alloc (.cells (T.flatMap rcells7).toArray 118) := by
  refine calls_of_wp hf hb ?_
  refine wp_anyFrame (T.length + 2) (by simp [hn]) rfl fun a0 hs0 hd0 => ?_
  unfold rlitBody
  apply wp_seq_k; intro K0 hK0
  apply wp_region_lit
  unfold rlitStart
  refine wpList_readTo rfl (some 0) rfl (.slice none 0 0) rfl ?_
  apply wpList_nil
  refine hK0 _ _ ?_
  refine wp_anyFrame (T.length + 2) (by simp only [Act.size_put, hs0]) (by simp only [Act.defers_put', hd0]) fun a1 hs1 hd1 => ?_
  clear hK0 K0
  apply wp_seq_k; intro K1 hK1
  apply wp_region_lit
  refine wpList_rls p2 T 1 a1 (by omega) fun b hbs hbd hev _ => ?_
  have hl : (T.map fun x => Value.agg (rcells7 x).toArray).length = T.length := by simp
  have hfl : ((T.map fun x => Value.agg (rcells7 x).toArray).flatMap fun v => v.cells.toList) = T.flatMap rcells7 := by simp [List.flatMap_map, Value.cells]
  unfold rlitEnd
  refine wpList_buildRows rfl 135 118 _ 7 (T.map fun x => Value.agg (rcells7 x).toArray) (by rw [hl]) (fun i => 1 + i) w.heap.size rfl (some (T.length + 1)) rfl (by kernel_rfl) (by kernel_rfl) (by kernel_rfl) (by omega) (by rw [hl]; exact hpos) (by rw [hl]; exact hsmall)
    (by rw [hl]) (fun v hv => by obtain ⟨x, _, rfl⟩ := List.mem_map.1 hv; rfl) (fun i hi => by rw [hev i (by simpa using hi)]; simp) ?_
  rw [hl, hfl]
  refine wpList_readTo rfl (some 0) rfl (.slice (some ⟨w.heap.size, 0, none⟩) T.length T.length) ?_ ?_
  · show Sem.run _ _ _ = _
    simp only [execOp]
    rw [Act.eval_put_same _ _ _ (by omega)]
    rfl
  apply wpList_nil
  refine hK1 _ _ ?_
  refine wp_ret (bodyPost_ret (results_tmp hr _ _ _) (by simp only [Act.defers_put', hbd, hd1]) ?_)
  refine ⟨?_, rfl⟩
  have := Act.eval_put_same (b.put (some (T.length + 1)) (.slice (some ⟨w.heap.size, 0, none⟩) T.length T.length)) 0 (.slice (some ⟨w.heap.size, 0, none⟩) T.length T.length) (by rw [Act.size_put]; omega)
  exact congrArg Ending.returned this

/-- The reference's rows are the program's lines, cut by thirties. -/
def part (i : Nat) : List Ln := (allT.drop (30 * i)).take 30

theorem rows0_any (w : World) : Calls Try.prog 86 #[] w fun e w' => e = .returned (.slice (some ⟨w.heap.size, 0, none⟩) (part 0).length (part 0).length) ∧ w' = w.alloc (.cells ((part 0).flatMap rcells7).toArray 118) :=
  rlit_calls (posA Try.f86) (posB Try.f86) (part 0) w Try.func86 (by kernel_rfl) rfl (by kernel_rfl) (by decide) (by decide)

theorem rows1_any (w : World) : Calls Try.prog 87 #[] w fun e w' => e = .returned (.slice (some ⟨w.heap.size, 0, none⟩) (part 1).length (part 1).length) ∧ w' = w.alloc (.cells ((part 1).flatMap rcells7).toArray 118) :=
  rlit_calls (posA Try.f87) (posB Try.f87) (part 1) w Try.func87 (by kernel_rfl) rfl (by kernel_rfl) (by decide) (by decide)

theorem rows2_any (w : World) : Calls Try.prog 88 #[] w fun e w' => e = .returned (.slice (some ⟨w.heap.size, 0, none⟩) (part 2).length (part 2).length) ∧ w' = w.alloc (.cells ((part 2).flatMap rcells7).toArray 118) :=
  rlit_calls (posA Try.f88) (posB Try.f88) (part 2) w Try.func88 (by kernel_rfl) rfl (by kernel_rfl) (by decide) (by decide)

theorem rows3_any (w : World) : Calls Try.prog 89 #[] w fun e w' => e = .returned (.slice (some ⟨w.heap.size, 0, none⟩) (part 3).length (part 3).length) ∧ w' = w.alloc (.cells ((part 3).flatMap rcells7).toArray 118) :=
  rlit_calls (posA Try.f89) (posB Try.f89) (part 3) w Try.func89 (by kernel_rfl) rfl (by kernel_rfl) (by decide) (by decide)

theorem rows4_any (w : World) : Calls Try.prog 90 #[] w fun e w' => e = .returned (.slice (some ⟨w.heap.size, 0, none⟩) (part 4).length (part 4).length) ∧ w' = w.alloc (.cells ((part 4).flatMap rcells7).toArray 118) :=
  rlit_calls (posA Try.f90) (posB Try.f90) (part 4) w Try.func90 (by kernel_rfl) rfl (by kernel_rfl) (by decide) (by decide)

theorem rows5_any (w : World) : Calls Try.prog 91 #[] w fun e w' => e = .returned (.slice (some ⟨w.heap.size, 0, none⟩) (part 5).length (part 5).length) ∧ w' = w.alloc (.cells ((part 5).flatMap rcells7).toArray 118) :=
  rlit_calls (posA Try.f91) (posB Try.f91) (part 5) w Try.func91 (by kernel_rfl) rfl (by kernel_rfl) (by decide) (by decide)

theorem rows6_any (w : World) : Calls Try.prog 92 #[] w fun e w' => e = .returned (.slice (some ⟨w.heap.size, 0, none⟩) (part 6).length (part 6).length) ∧ w' = w.alloc (.cells ((part 6).flatMap rcells7).toArray 118) :=
  rlit_calls (posA Try.f92) (posB Try.f92) (part 6) w Try.func92 (by kernel_rfl) rfl (by kernel_rfl) (by decide) (by decide)

end Go.Proofs.Ytbamhbfncddieaa.Uc
