import Derived.Test.YthdchapieninbabBuf3
import Derived.Lib.AppendStr
namespace Go.Proofs.Ythdchapieninbab
open Go.RowKit

theorem Try.info_u8 : (Try.prog.info? 5).map (fun i => (i.zero, i.size, i.bytes)) = some (some (.int .u8 0), 1, 1) := by kernel_rfl

section
variable {B b : Nat} {l : List UInt8} {room : Nat} {full : Bool} {w : World}

theorem u8s_append (a c : List UInt8) : u8s (a ++ c) = u8s a ++ u8s c := by simp [u8s]
theorem u8s_len (a : List UInt8) : (u8s a).length = a.length := by simp [u8s]
theorem strCells_eq (s : ByteArray) : Lib.strCells s = u8s s.data.toList := rfl

theorem Kept.grown (hb : b < w.heap.size) (hB : B ≤ w.heap.size) (s : ByteArray) (c : Nat) (hc : l.length + s.size ≤ c) (hm : c ≤ maxLen) (z : Array Value) (hz : (u8s (l ++ s.data.toList)).length + z.size = c) :
    Kept (w.drew.alloc (.cells ((u8s l).toArray ++ (Lib.strCells s).toArray ++ z) 5)) B b (l ++ s.data.toList) (some ⟨w.heap.size, 0, none⟩) c := by
  have e : (u8s l).toArray ++ (Lib.strCells s).toArray ++ z = (u8s (l ++ s.data.toList)).toArray ++ z := by
    rw [u8s_append, strCells_eq]; apply Array.ext'; simp
  rw [e]
  refine .inr ⟨w.heap.size, _, rfl, hB, by omega, heap_alloc_new w.drew _, ?_, ?_, hm, ?_⟩
  · rw [List.length_append]; simpa using hc
  · rw [Array.size_append, List.size_toArray, hz]; exact Nat.le_refl _
  · rw [Array.toList_append, ← u8s_len]; exact List.take_left

theorem Kept.append {ao : Option Addr} {cap : Nat} (h : Kept w B b l ao cap) (hb : b < w.heap.size) (hB : B ≤ w.heap.size) (s : ByteArray) (hs : l.length + s.size ≤ 1000000000) (ty : TypeId) :
    ∃ ao' cap' w', (Builtin.append_ #[42, 9] ty #[.slice ao l.length cap, .string s]).run Try.prog w = .ok (.slice ao' (l.length + s.size) cap') w' ∧ Kept w' B b (l ++ s.data.toList) ao' cap' ∧ w'.heap[b]? = w.heap[b]? ∧ Turn B b w w' := by
  obtain ⟨i0, hi, hz0, hz1, hz2⟩ := info_parts Try.info_u8
  have hsz : s.data.toList.length = s.size := len_size s
  have gc := fun old => grownCap_ge w (l.length + s.size) old 5
  have gm := fun old => grownCap_le_maxLen w (l.length + s.size) old 5 (by unfold maxLen; omega)
  have gz : ∀ old, (u8s (l ++ s.data.toList)).length + (Builtin.zeroCells (Value.int .u8 0).cells (grownCap w (l.length + s.size) old 5 - (l.length + s.size))).size = grownCap w (l.length + s.size) old 5 := by
    intro old
    have hz1 : (Value.int IntKind.u8 0).cells.size = 1 := rfl
    have := gc old
    rw [u8s_len, List.length_append, hsz, size_zeroCells, hz1]; omega
  have old : ∀ o : Obj, (w.drew.alloc o).heap[b]? = w.heap[b]? := fun o => Below.heap_alloc w.drew o b hb
  have bel : ∀ o : Obj, Turn B b w (w.drew.alloc o) := fun o => (Turn.refl B b w).drew.alloc hB o
  have h0 := h
  rcases h with ⟨rfl, rfl, rfl⟩ | ⟨g, cur, rfl, hBg, hgb, hg, h1, h2, h3, h4⟩
  · by_cases hm : s.size = 0
    · have hn : s.data.toList = [] := List.eq_nil_of_length_eq_zero (by rw [hsz]; exact hm)
      refine ⟨none, 0, w, ?_, by rw [hn]; exact .inl ⟨rfl, rfl, rfl⟩, rfl, Turn.refl _ _ _⟩
      have hf := Lib.run_firstCells_string (P := Try.prog) w 1 s
      rw [hm] at hf
      simp [Builtin.append_, run_underlying Try.underlying42, run_underlying Try.underlying9, sizeOf, typeInfo, hi, hz1, Builtin.lenOf, hm, hf]
    · have hr := run_append_nil_string (P := Try.prog) w 42 9 ty 5 i0 (.int .u8 0) Try.underlying42 Try.underlying9 hi hz0 s (by omega) (by omega) (by rw [hz2]; omega)
      have hk := Kept.grown (l := []) hb hB s (grownCap w (0 + s.size) 0 5) (gc 0) (gm 0) _ (gz 0)
      have e1 : (s.data.map fun b => Value.int .u8 b.toNat) = (Lib.strCells s).toArray := by
        apply Array.ext'
        simp [Lib.strCells]
      rw [e1] at hr
      simp only [u8s, List.map_nil, List.length_nil, Nat.zero_add, List.nil_append, Array.empty_append] at hk hr ⊢
      exact ⟨_, _, _, hr, hk, old _, bel _⟩
  · by_cases hroom : l.length + s.size ≤ cap
    · have hr := Lib.run_append_room_string (P := Try.prog) w 42 9 ty 5 i0 Try.underlying42 Try.underlying9 hi hz1 g l.length cap cur hg s hroom (by omega)
      refine ⟨_, _, _, hr, .inr ⟨g, _, rfl, hBg, hgb, setRow_heap w g cur _ 5 _ hg, ?_, ?_, h3, ?_⟩, setRow_other w g b _ (fun e => hgb e.symm), ?_⟩
      · rw [List.length_append, hsz]; exact hroom
      · simp only [List.size_toArray, List.length_append, List.length_take, List.length_drop, Array.length_toList, Lib.strCells_length]
        omega
      · rw [h4, strCells_eq, ← u8s_append, ← u8s_len]
        exact List.take_left
      · refine ⟨⟨rfl, rfl, rfl, by simp, fun k hk => setRow_other w g k _ (by omega)⟩, fun k o hk _ ho => ?_⟩
        have hkg : k ≠ g := fun e => by subst e; rw [hg] at hk; exact ho _ _ (Option.some.inj hk).symm
        rw [setRow_other w g k _ hkg]; exact hk
    · have hlo : (u8s l).length = l.length * i0.size := by rw [hz1, u8s_len]; omega
      have holds : ∀ j u, (u8s l)[j]? = some u → w.cell? ((⟨g, 0, none⟩ : Addr).add j) = some u := by
        intro j u hu
        have hj : j < l.length := by
          have := (List.getElem?_eq_some_iff.1 hu).1
          rwa [u8s_len] at this
        have e := h0.at j hj
        have e2 : u = .int .u8 (l[j].toNat : Int) := by
          simp [u8s, hj] at hu; exact hu.symm
        rw [e2]
        unfold Addr.add
        by_cases hj0 : j = 0
        · subst hj0; exact e
        · rw [if_neg hj0]; simpa using e
      have hr := Lib.run_append_grow_string (P := Try.prog) w 42 9 ty 5 i0 (.int .u8 0) Try.underlying42 Try.underlying9 hi hz0 ⟨g, 0, none⟩ l.length cap (u8s l) hlo holds s (by omega) (by omega) (by rw [hz2]; exact growslice_fits (by omega) (by omega))
      have hk := Kept.grown (l := l) hb hB s (grownCap w (l.length + s.size) cap 5) (gc cap) (gm cap) _ (gz cap)
      exact ⟨_, _, _, hr, hk, old _, bel _⟩

/-- The operation, for the walk. -/
theorem wpList_append_kept {ops : Array Oper} {rest : List Oper} {o : Oper} {a : Act} {Q : Exit → Act → World → Prop} (hgd : o.guard = none) (sl x : Operand)
    (ho : o.op = .call { callee := .builtin .append, args := #[sl, x], argTypes := #[42, 9] }) (ao : Option Addr) (cap : Nat) (s : ByteArray)
    (hs : a.eval sl = .slice ao l.length cap) (hx : a.eval x = .string s) (h : Kept w B b l ao cap) (hb : b < w.heap.size) (hB : B ≤ w.heap.size) (hl : l.length + s.size ≤ 1000000000)
    (k : ∀ ao' cap' w', Kept w' B b (l ++ s.data.toList) ao' cap' → w'.heap[b]? = w.heap[b]? → Turn B b w w' → wpList Try.prog ops Q rest (a.put o.dst (.slice ao' (l.length + s.size) cap')) w') : wpList Try.prog ops Q (o :: rest) a w := by
  refine wpList_plain hgd fun K hK => ?_
  obtain ⟨ao', cap', w', hr, h2, h3, h4⟩ := h.append hb hB s hl o.type
  unfold Oper.wp execOp
  simp only [ho, resolve, invoke, builtin, Sem.run_bind, Sem.run_pure, Result.andThen_ok, List.map_toArray, List.map_cons, List.map_nil, hs, hx, hr]
  exact hK _ _ (k ao' cap' w' h2 h3 h4)

theorem cut_no (n : Int) (h : Buf B b l room full w) (hn : n < 0 ∨ (l.length : Int) < n) :
    Calls Try.prog 17 #[.pointer (some ⟨b, 0, none⟩), .int .i64 n] w fun e w' => e = .returned (.bool false) ∧ w' = w := by
  obtain ⟨ao, cap, h⟩ := h
  obtain ⟨c0, _, _, _⟩ := h.cells
  rcases hn with hn | hn
  · go_enter Try.func17, Try.ntmps17
    go_wp2_with fail
    go_ret
    exact ⟨rfl, rfl⟩
  · have h0 : ¬ n < 0 := by omega
    go_enter Try.func17, Try.ntmps17
    go_wp2_with fail
    go_ret
    exact ⟨rfl, rfl⟩

theorem cut_yes (n : Nat) (h : Buf B b l room full w) (hn : n ≤ l.length) :
    Calls Try.prog 17 #[.pointer (some ⟨b, 0, none⟩), .int .i64 n] w fun e w' => e = .returned (.bool true) ∧ Buf B b (l.take n) room full w' ∧ Turn B b w w' := by
  have hk := keep_any n h hn
  obtain ⟨ao, cap, h⟩ := h
  obtain ⟨c0, _, _, _⟩ := h.cells
  have h1 : ¬ (l.length : Int) < n := by omega
  go_enter Try.func17, Try.ntmps17
  go_wp2_with (go_at_call 22; refine hk.mono ?_; rintro e w' ⟨rfl, hb, hbel⟩)
  go_ret
  exact ⟨rfl, hb, hbel⟩

theorem clear_any (h : Buf B b l room full w) :
    Calls Try.prog 18 #[.pointer (some ⟨b, 0, none⟩)] w fun e w' => e = .returned (.tuple #[]) ∧ Buf B b [] room false w' ∧ Turn B b w w' := by
  have hk := keep_any 0 h (Nat.zero_le _)
  go_enter Try.func18, Try.ntmps18
  go_wp2_with fail
  refine hk.mono ?_
  rintro e w' ⟨rfl, ⟨ao, cap, hb⟩, hbel⟩
  obtain ⟨c0, c1, c2, f⟩ := hb.cells
  have f2 := f 2
  have HB : Hid _ := hb.full' false
  have ha := hb.above
  clear hb f
  go_wp2
  go_end0
  exact ⟨rfl, ⟨ao, cap, HB.out⟩, hbel.setCell ha 2 _⟩

end
end Go.Proofs.Ythdchapieninbab
