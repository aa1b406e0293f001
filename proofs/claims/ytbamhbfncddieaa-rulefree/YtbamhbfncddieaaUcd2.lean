import Derived.Test.YtbamhbfncddieaaUcd1
import Derived.Great.CaseRows
namespace Go.Proofs.Ytbamhbfncddieaa.Uc
open Go.RowKit Go.Great

/-- The place in the Go text that a function's first and second region name. -/
def posA (f : Func) : String :=
  match f.body with
  | some (.seq (.region _ ops _) _) => (ops[0]?.map (fun o => o.pos)).getD ""
  | _ => ""
def posB (f : Func) : String :=
  match f.body with
  | some (.seq _ (.seq (.region _ ops _) _)) => (ops[0]?.map (fun o => o.pos)).getD ""
  | _ => ""

/-- A line of the table: from, to, kind, direction, script, class, joining. -/
abbrev Ln := Int × Int × Int × Int × Int × Int × Int

def cells7 (x : Ln) : List Value := [.int .i32 x.1, .int .i32 x.2.1, .int .i64 x.2.2.1, .int .i64 x.2.2.2.1, .int .i64 x.2.2.2.2.1, .int .i64 x.2.2.2.2.2.1, .int .i64 x.2.2.2.2.2.2]

/-- The operations that build the lines, one each. -/
def lnOps (pos : String) : Nat → List Ln → List Oper
  | _, [] => []
  | d, x :: xs =>
    { dst := some d, op := .build 96 #[(0, .const (.int .i32 x.1)), (1, .const (.int .i32 x.2.1)), (2, .const (.int .i64 x.2.2.1)), (3, .const (.int .i64 x.2.2.2.1)), (4, .const (.int .i64 x.2.2.2.2.1)), (5, .const (.int .i64 x.2.2.2.2.2.1)), (6, .const (.int .i64 x.2.2.2.2.2.2))], type := 96, pos := pos, after := #[], guard := none } ::
    lnOps pos (d + 1) xs

theorem built7 (x : Ln) : Try.prog.built 96 [(0, .int .i32 x.1), (1, .int .i32 x.2.1), (2, .int .i64 x.2.2.1), (3, .int .i64 x.2.2.2.1), (4, .int .i64 x.2.2.2.2.1), (5, .int .i64 x.2.2.2.2.2.1), (6, .int .i64 x.2.2.2.2.2.2)] = some (cells7 x).toArray := by kernel_rfl

theorem wpList_lns {ops : Array Oper} {rest : List Oper} {w : World} {Q : Exit → Act → World → Prop} (pos : String) :
    ∀ (xs : List Ln) (d : Nat) (a : Act), d + xs.length ≤ a.tmps.size →
      (∀ a' : Act, a'.tmps.size = a.tmps.size → a'.defers = a.defers → (∀ i (h : i < xs.length), a'.eval (.tmp (d + i)) = .agg (cells7 xs[i]).toArray) →
        (∀ j, j < d → a'.eval (.tmp j) = a.eval (.tmp j)) → wpList Try.prog ops Q rest a' w) →
      wpList Try.prog ops Q (lnOps pos d xs ++ rest) a w
  | [], d, a, _, h => h a rfl rfl (fun i hi => absurd hi (by simp)) (fun _ _ => rfl)
  | x :: xs, d, a, hd, h => by
    have hlt : d < a.tmps.size := by simp at hd; omega
    show wpList Try.prog ops Q (_ :: (lnOps pos (d + 1) xs ++ rest)) a w
    refine wpList_buildTo rfl 96 _ rfl (some d) rfl (cells7 x).toArray (by simpa [Act.eval] using built7 x) ?_
    refine wpList_lns pos xs (d + 1) _ (by rw [Act.size_put]; simp at hd; omega) fun a' hs hdf hev hlow => ?_
    refine h a' (by rw [hs, Act.size_put]) (by rw [hdf, Act.defers_put']) (fun i hi => ?_) (fun j hj => ?_)
    · cases i with
      | zero => rw [show d + 0 = d by omega, hlow d (by omega), Act.eval_put_same _ _ _ (by omega)]; rfl
      | succ i =>
        have := hev i (by simpa using hi)
        rw [show d + (i + 1) = d + 1 + i by omega, this]
        rfl
    · rw [hlow j (by omega), Act.eval_put_ne _ _ _ _ (by omega)]

/-- The last two operations: the slice of the lines, and the answer. -/
def litEnd (p2 : String) (n : Nat) : List Oper :=
  [{ dst := some (n + 1), op := .buildSlice 53 n ((List.range n).map fun i => (i, Operand.tmp (1 + i))).toArray, type := 53, pos := p2, after := ((List.range n).map fun i => ⟨i, .data⟩).toArray, guard := none },
   { dst := some 0, op := .assign (.tmp (n + 1)), type := 53, pos := p2, after := (⟨n, .data⟩ :: (List.range (n + 1)).map fun i => ⟨i, .phase⟩).toArray, guard := none }]

def litStart (p1 : String) : List Oper := [{ dst := some 0, op := .assign (.const (.slice none 0 0)), type := 53, pos := p1, after := #[], guard := none }]

/-- The body of a function that is one literal of lines. -/
def litBody (p1 p2 : String) (T : List Ln) : Code :=
  .seq (.region 0 (litStart p1).toArray false) (.seq (.region 1 (lnOps p2 1 T ++ litEnd p2 T.length).toArray false) .ret)

/-- What such a function tells: a new block of the lines' cells, and a slice of it. -/
theorem lit_calls {f : FuncId} {fn : Func} (p1 p2 : String) (T : List Ln) (w : World) (hf : Try.prog.funcs[f]? = some fn) (hb : fn.body = some (litBody p1 p2 T)) (hr : fn.results = #[.tmp 0]) (hn : fn.ntmps = T.length + 2)
    (hpos : 0 < T.length) (hsmall : T.length * 7 ≤ 2 ^ 24) :
    Calls Try.prog f #[] w fun e w' => e = .returned (.slice (some ⟨w.heap.size, 0, none⟩) T.length T.length) ∧ w' = w.alloc (.cells (T.flatMap cells7).toArray 96) := by
  refine calls_of_wp hf hb ?_
  refine wp_anyFrame (T.length + 2) (by simp [hn]) rfl fun a0 hs0 hd0 => ?_
  unfold litBody
  apply wp_seq_k; intro K0 hK0
  apply wp_region_lit
  unfold litStart
  refine wpList_readTo rfl (some 0) rfl (.slice none 0 0) rfl ?_
  apply wpList_nil
  refine hK0 _ _ ?_
  refine wp_anyFrame (T.length + 2) (by simp only [Act.size_put, hs0]) (by simp only [Act.defers_put', hd0]) fun a1 hs1 hd1 => ?_
  clear hK0 K0
  apply wp_seq_k; intro K1 hK1
  apply wp_region_lit
  refine wpList_lns p2 T 1 a1 (by omega) fun b hbs hbd hev _ => ?_
  have hl : (T.map fun x => Value.agg (cells7 x).toArray).length = T.length := by simp
  have hfl : ((T.map fun x => Value.agg (cells7 x).toArray).flatMap fun v => v.cells.toList) = T.flatMap cells7 := by simp [List.flatMap_map, Value.cells]
  unfold litEnd
  refine wpList_buildRows rfl 53 96 _ 7 (T.map fun x => Value.agg (cells7 x).toArray) (by rw [hl]) (fun i => 1 + i) w.heap.size rfl (some (T.length + 1)) rfl (by kernel_rfl) (by kernel_rfl) (by kernel_rfl) (by omega) (by rw [hl]; exact hpos) (by rw [hl]; exact hsmall)
    (by rw [hl]) (fun v hv => by obtain ⟨x, _, rfl⟩ := List.mem_map.1 hv; rfl) (fun i hi => by rw [hev i (by simpa using hi)]; simp) ?_
  rw [hl, hfl]
  refine wpList_readTo rfl (some 0) rfl (.slice (some ⟨w.heap.size, 0, none⟩) T.length T.length) ?_ ?_
  · show Sem.run _ _ _ = _
    simp only [execOp]
    rw [Act.eval_put_same _ _ _ (by omega)]
    rfl
  apply wpList_nil
  refine hK1 _ _ ?_
  refine wp_ret (bodyPost_ret (results_tmp hr _ _ _) (by simp only [Act.defers_put', hbd, hd1]) ?_)
  refine ⟨?_, rfl⟩
  have := Act.eval_put_same (b.put (some (T.length + 1)) (.slice (some ⟨w.heap.size, 0, none⟩) T.length T.length)) 0 (.slice (some ⟨w.heap.size, 0, none⟩) T.length T.length) (by rw [Act.size_put]; omega)
  exact congrArg Ending.returned this

/-- The lines of latin. -/
def latinT : List Ln := [
  (0, 31, 10, 9, 0, 0, 0), (32, 32, 8, 11, 0, 0, 0), (33, 34, 8, 10, 0, 0, 0), (35, 37, 8, 5, 0, 0, 0),
  (38, 42, 8, 10, 0, 0, 0), (43, 43, 8, 4, 0, 0, 0), (44, 44, 8, 7, 0, 0, 0), (45, 45, 8, 4, 0, 0, 0),
  (46, 47, 8, 7, 0, 0, 0), (48, 57, 7, 3, 0, 0, 0), (58, 58, 8, 7, 0, 0, 0), (59, 64, 8, 10, 0, 0, 0),
  (65, 90, 1, 0, 1, 0, 0), (91, 96, 8, 10, 0, 0, 0), (97, 122, 2, 0, 1, 0, 0), (123, 126, 8, 10, 0, 0, 0),
  (127, 159, 10, 9, 0, 0, 0), (160, 160, 8, 7, 0, 0, 0), (161, 161, 8, 10, 0, 0, 0), (162, 165, 8, 5, 0, 0, 0),
  (166, 169, 8, 10, 0, 0, 0), (170, 170, 3, 0, 1, 0, 0), (171, 172, 8, 10, 0, 0, 0), (173, 173, 9, 9, 0, 0, 4),
  (174, 175, 8, 10, 0, 0, 0), (176, 177, 8, 5, 0, 0, 0), (178, 179, 8, 3, 0, 0, 0), (180, 180, 8, 10, 0, 0, 0),
  (181, 181, 2, 0, 0, 0, 0), (182, 184, 8, 10, 0, 0, 0), (185, 185, 8, 3, 0, 0, 0), (186, 186, 3, 0, 1, 0, 0),
  (187, 191, 8, 10, 0, 0, 0), (192, 214, 1, 0, 1, 0, 0), (215, 215, 8, 10, 0, 0, 0), (216, 222, 1, 0, 1, 0, 0),
  (223, 246, 2, 0, 1, 0, 0), (247, 247, 8, 10, 0, 0, 0), (248, 255, 2, 0, 1, 0, 0), (256, 311, 12, 0, 1, 0, 0),
  (312, 312, 2, 0, 1, 0, 0), (313, 328, 13, 0, 1, 0, 0), (329, 329, 2, 0, 1, 0, 0), (330, 375, 12, 0, 1, 0, 0),
  (376, 376, 1, 0, 1, 0, 0), (377, 382, 13, 0, 1, 0, 0), (383, 383, 2, 0, 1, 0, 0), (416, 417, 12, 0, 1, 0, 0),
  (431, 432, 13, 0, 1, 0, 0), (461, 476, 13, 0, 1, 0, 0)]

theorem latin_any (w : World) : Calls Try.prog 53 #[] w fun e w' => e = .returned (.slice (some ⟨w.heap.size, 0, none⟩) latinT.length latinT.length) ∧ w' = w.alloc (.cells (latinT.flatMap cells7).toArray 96) :=
  lit_calls (posA Try.f53) (posB Try.f53) latinT w Try.func53 (by kernel_rfl) rfl (by kernel_rfl) (by decide) (by decide)

/-- The lines of marksToHebrew. -/
def marksT : List Ln := [
  (768, 788, 5, 8, 0, 230, 4), (789, 789, 5, 8, 0, 232, 4), (790, 793, 5, 8, 0, 220, 4), (794, 794, 5, 8, 0, 232, 4),
  (795, 795, 5, 8, 0, 216, 4), (796, 800, 5, 8, 0, 220, 4), (801, 802, 5, 8, 0, 202, 4), (803, 806, 5, 8, 0, 220, 4),
  (807, 808, 5, 8, 0, 202, 4), (809, 819, 5, 8, 0, 220, 4), (820, 824, 5, 8, 0, 1, 4), (825, 828, 5, 8, 0, 220, 4),
  (829, 836, 5, 8, 0, 230, 4), (837, 837, 5, 8, 0, 240, 4), (885, 885, 8, 10, 2, 0, 0), (894, 894, 8, 10, 0, 0, 0),
  (902, 902, 1, 0, 2, 0, 0), (903, 903, 8, 10, 0, 0, 0), (904, 906, 1, 0, 2, 0, 0), (908, 908, 1, 0, 2, 0, 0),
  (910, 911, 1, 0, 2, 0, 0), (912, 912, 2, 0, 2, 0, 0), (913, 929, 1, 0, 2, 0, 0), (931, 939, 1, 0, 2, 0, 0),
  (940, 974, 2, 0, 2, 0, 0), (1024, 1071, 1, 0, 3, 0, 0), (1072, 1119, 2, 0, 3, 0, 0), (1460, 1460, 5, 8, 4, 14, 4),
  (1463, 1463, 5, 8, 4, 17, 4), (1468, 1468, 5, 8, 4, 21, 4), (1471, 1471, 5, 8, 4, 23, 4), (1473, 1473, 5, 8, 4, 24, 4),
  (1474, 1474, 5, 8, 4, 25, 4), (1488, 1514, 3, 1, 4, 0, 0), (1523, 1524, 8, 1, 4, 0, 0)]

theorem marks_any (w : World) : Calls Try.prog 54 #[] w fun e w' => e = .returned (.slice (some ⟨w.heap.size, 0, none⟩) marksT.length marksT.length) ∧ w' = w.alloc (.cells (marksT.flatMap cells7).toArray 96) :=
  lit_calls (posA Try.f54) (posB Try.f54) marksT w Try.func54 (by kernel_rfl) rfl (by kernel_rfl) (by decide) (by decide)

/-- The lines of arabic. -/
def arabicT : List Ln := [
  (1569, 1569, 3, 2, 5, 0, 0), (1570, 1573, 3, 2, 5, 0, 3), (1574, 1574, 3, 2, 5, 0, 2), (1575, 1575, 3, 2, 5, 0, 3),
  (1576, 1576, 3, 2, 5, 0, 2), (1577, 1577, 3, 2, 5, 0, 3), (1578, 1582, 3, 2, 5, 0, 2), (1583, 1586, 3, 2, 5, 0, 3),
  (1587, 1594, 3, 2, 5, 0, 2), (1600, 1600, 4, 2, 0, 0, 1), (1601, 1607, 3, 2, 5, 0, 2), (1608, 1608, 3, 2, 5, 0, 3),
  (1609, 1610, 3, 2, 5, 0, 2), (1611, 1611, 5, 8, 0, 27, 4), (1612, 1612, 5, 8, 0, 28, 4), (1613, 1613, 5, 8, 0, 29, 4),
  (1614, 1614, 5, 8, 0, 30, 4), (1615, 1615, 5, 8, 0, 31, 4), (1616, 1616, 5, 8, 0, 32, 4), (1617, 1617, 5, 8, 0, 33, 4),
  (1618, 1618, 5, 8, 0, 34, 4), (1619, 1620, 5, 8, 0, 230, 4), (1621, 1621, 5, 8, 0, 220, 4), (1632, 1641, 7, 6, 5, 0, 0),
  (1648, 1648, 5, 8, 0, 35, 4), (1649, 1649, 3, 2, 5, 0, 3), (1662, 1662, 3, 2, 5, 0, 2), (1670, 1670, 3, 2, 5, 0, 2),
  (1688, 1688, 3, 2, 5, 0, 3), (1705, 1705, 3, 2, 5, 0, 2), (1711, 1711, 3, 2, 5, 0, 2), (1728, 1728, 3, 2, 5, 0, 3),
  (1729, 1730, 3, 2, 5, 0, 2), (1740, 1740, 3, 2, 5, 0, 2), (1746, 1747, 3, 2, 5, 0, 3), (1749, 1749, 3, 2, 5, 0, 3),
  (1776, 1785, 7, 3, 5, 0, 0), (1789, 1790, 8, 2, 5, 0, 0)]

theorem arabic_any (w : World) : Calls Try.prog 55 #[] w fun e w' => e = .returned (.slice (some ⟨w.heap.size, 0, none⟩) arabicT.length arabicT.length) ∧ w' = w.alloc (.cells (arabicT.flatMap cells7).toArray 96) :=
  lit_calls (posA Try.f55) (posB Try.f55) arabicT w Try.func55 (by kernel_rfl) rfl (by kernel_rfl) (by decide) (by decide)

/-- The lines of devanagariToHangul. -/
def devT : List Ln := [
  (2305, 2306, 5, 8, 6, 0, 4), (2307, 2307, 6, 0, 6, 0, 0), (2308, 2361, 3, 0, 6, 0, 0), (2364, 2364, 5, 8, 6, 7, 4),
  (2366, 2368, 6, 0, 6, 0, 0), (2369, 2376, 5, 8, 6, 0, 4), (2377, 2380, 6, 0, 6, 0, 0), (2381, 2381, 5, 8, 6, 9, 4),
  (2392, 2401, 3, 0, 6, 0, 0), (2406, 2415, 7, 0, 6, 0, 0), (4352, 4370, 3, 0, 7, 0, 0), (4449, 4469, 3, 0, 7, 0, 0),
  (4520, 4546, 3, 0, 7, 0, 0), (7840, 7929, 12, 0, 1, 0, 0), (8192, 8202, 8, 11, 0, 0, 0), (8203, 8203, 9, 9, 0, 0, 4),
  (8204, 8204, 9, 9, 0, 0, 0), (8205, 8205, 9, 9, 0, 0, 1), (8206, 8206, 9, 0, 0, 0, 4), (8207, 8207, 9, 1, 0, 0, 4),
  (8208, 8231, 8, 10, 0, 0, 0), (8234, 8238, 9, 9, 0, 0, 4), (8294, 8297, 9, 9, 0, 0, 4), (8486, 8486, 1, 0, 2, 0, 0),
  (8490, 8491, 1, 0, 1, 0, 0), (12289, 12290, 8, 10, 0, 0, 0), (12293, 12293, 4, 0, 10, 0, 0), (12295, 12295, 8, 0, 10, 0, 0),
  (12337, 12341, 4, 0, 0, 0, 0), (12347, 12347, 4, 0, 10, 0, 0), (12353, 12438, 3, 0, 8, 0, 0), (12441, 12442, 5, 8, 0, 8, 4),
  (12445, 12446, 4, 0, 8, 0, 0), (12449, 12538, 3, 0, 9, 0, 0), (12539, 12539, 8, 10, 0, 0, 0), (12540, 12540, 4, 0, 0, 0, 0),
  (12541, 12542, 4, 0, 9, 0, 0), (19968, 40959, 3, 0, 10, 0, 0), (44032, 55203, 3, 0, 7, 0, 0)]

theorem dev_any (w : World) : Calls Try.prog 56 #[] w fun e w' => e = .returned (.slice (some ⟨w.heap.size, 0, none⟩) devT.length devT.length) ∧ w' = w.alloc (.cells (devT.flatMap cells7).toArray 96) :=
  lit_calls (posA Try.f56) (posB Try.f56) devT w Try.func56 (by kernel_rfl) rfl (by kernel_rfl) (by decide) (by decide)

/-- The lines of privateToLast. -/
def lastT : List Ln := [
  (57344, 63743, 11, 0, 0, 0, 0), (65281, 65295, 8, 10, 0, 0, 0), (65296, 65305, 7, 3, 0, 0, 0), (65306, 65312, 8, 10, 0, 0, 0),
  (65313, 65338, 1, 0, 1, 0, 0), (65339, 65344, 8, 10, 0, 0, 0), (65345, 65370, 2, 0, 1, 0, 0), (65371, 65374, 8, 10, 0, 0, 0),
  (65377, 65377, 8, 10, 0, 0, 0), (65381, 65381, 8, 10, 0, 0, 0), (65382, 65391, 3, 0, 9, 0, 0), (65392, 65392, 4, 0, 0, 0, 0),
  (65393, 65437, 3, 0, 9, 0, 0), (65438, 65439, 4, 0, 0, 0, 0), (65533, 65533, 8, 10, 0, 0, 0), (66560, 66599, 1, 0, 0, 0, 0),
  (66600, 66639, 2, 0, 0, 0, 0), (128512, 128591, 8, 10, 0, 0, 0), (983040, 1048573, 11, 0, 0, 0, 0), (1048576, 1114109, 11, 0, 0, 0, 0)]

theorem last_any (w : World) : Calls Try.prog 57 #[] w fun e w' => e = .returned (.slice (some ⟨w.heap.size, 0, none⟩) lastT.length lastT.length) ∧ w' = w.alloc (.cells (lastT.flatMap cells7).toArray 96) :=
  lit_calls (posA Try.f57) (posB Try.f57) lastT w Try.func57 (by kernel_rfl) rfl (by kernel_rfl) (by decide) (by decide)
end Go.Proofs.Ytbamhbfncddieaa.Uc
