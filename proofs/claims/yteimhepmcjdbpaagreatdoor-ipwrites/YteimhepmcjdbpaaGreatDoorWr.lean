import Derived.Test.YteimhepmcjdbpaaGreatDoorBld
import Derived.Lib.FrozenHead2
import Derived.Lib.AppendStr
import Derived.WalkSmall
namespace Go.Proofs.YteimhepmcjdbpaaGreatDoor
open Go.RowKit

theorem hid' {p : Prop} (h : p) : Hid p := h

/-- What a call on the builder in block b may turn: that block, rows of bytes beyond B, and new memory. -/
def Turn (B b : Nat) (w w' : World) : Prop := Below B w w' ∧ Lib.OthersKept 5 (some b) w w'
theorem Turn.refl (B b : Nat) (w : World) : Turn B b w w := ⟨Below.refl _ _, Lib.OthersKept.refl _ _ _⟩
theorem Turn.trans {B b : Nat} {u v w : World} (h : Turn B b u v) (k : Turn B b v w) : Turn B b u w := ⟨h.1.trans k.1, h.2.trans k.2⟩
theorem Turn.alloc {B b : Nat} {u v : World} (h : Turn B b u v) (hB : B ≤ v.heap.size) (o : Obj) : Turn B b u (v.alloc o) := ⟨h.1.alloc hB o, h.2.alloc o⟩
theorem Turn.setCell {B b : Nat} {u v : World} (h : Turn B b u v) (hB : B ≤ b) (o : Nat) (x : Value) : Turn B b u (v.setCell ⟨b, o, none⟩ x) := ⟨h.1.setCell (p := ⟨b, o, none⟩) hB x, h.2.setCell ⟨b, o, none⟩ rfl x⟩
theorem Turn.block {B b k : Nat} {u v : World} {o : Obj} (h : Turn B b u v) (hk : u.heap[k]? = some o) (hb : k ≠ b) (ho : ∀ c fz, o ≠ .cells c 5 fz) : v.heap[k]? = some o := h.2 k o hk (by simpa using hb) ho
theorem Turn.below {B b : Nat} {w u v : World} (h : Turn B b w u) (hB : B ≤ u.heap.size) (hb : Below u.heap.size u v) : Turn B b w v :=
  h.trans ⟨hb.mono hB, fun k _ hk _ _ => (hb.block k (Array.getElem?_eq_some_iff.1 hk).1).trans hk⟩

/-- A builder that holds these bytes. -/
def Bu (B b : Nat) (l : List UInt8) (w : World) : Prop := Lib.IsBuilderF 66 5 B b (Lib.byteCells l) w

section
variable {B b : Nat} {bs : List Value} {ao : Option Addr} {cap : Nat} {w : World}

theorem Parts.other {w2 : World} (h : Parts B b bs ao cap w) (hg : w.grownBy w2 (Value.slice ao bs.length cap).ownBlock) :
    w2.heap[b]? = some (.cells #[.pointer (some ⟨b, 0, none⟩), .slice ao bs.length cap] 66) :=
  (hg.block b (Array.getElem?_eq_some_iff.1 h.block).1 fun e => h.apart e.symm).trans h.block

/-- Once the grown row is stored. -/
theorem Parts.put {more : List Value} {v : Value} {w2 : World} (h : Parts B b bs ao cap w) (hB : B ≤ w.heap.size) (hg : w.grownBy w2 (Value.slice ao bs.length cap).ownBlock) (hv : w2.ownsRowF B 5 1 v (bs.length + more.length) (bs ++ more)) :
    Lib.BuilderAtF 66 5 B b (.pointer (some ⟨b, 0, none⟩)) (bs ++ more) (w2.setCell ⟨b, 1, none⟩ v) ∧ Turn B b w (w2.setCell ⟨b, 1, none⟩ v) := by
  have hsum : (bs ++ more).length = bs.length + more.length := List.length_append
  have hrow : ∀ k, (Value.slice ao bs.length cap).ownBlock = some k → B ≤ k := fun k e => (h.owns.lt k e).1
  refine ⟨?_, ((Below.refl B w).grown hg hB hrow).setCell (p := ⟨b, 1, none⟩) h.above v, ((Lib.OthersKept.refl _ _ w).grown hg (Lib.ownsRowF_kind h.owns)).setCell ⟨b, 1, none⟩ rfl v⟩
  rw [← hsum] at hv
  exact Lib.BuilderAtF.put h.above (h.other hg) hv (by decide)

theorem slice_of {w2 : World} {v : Value} {n : Nat} {xs : List Value} (h : w2.ownsRowF B 5 1 v n xs) : ∃ ao cap, v = .slice ao n cap := by
  cases h.2 with
  | inl q => exact ⟨none, 0, by rw [q.1, q.2]⟩
  | inr q => obtain ⟨g, cap, _, _, e, _⟩ := q; exact ⟨some ⟨g, 0, none⟩, cap, e⟩

theorem infoByte : (Tryz.prog.info? 5).map (fun i => (i.zero, i.size, i.bytes)) = some (some (.int .u8 0), 1, 1) := by kernel_rfl

/-- What stands behind an append onto a builder's row, ahead of the store. -/
def Pushed (B b : Nat) (bs : List Value) (ao : Option Addr) (cap : Nat) (more : List Value) (w : World) (ao' : Option Addr) (cap' : Nat) (w2 : World) : Prop :=
  w2.cell? ⟨b, 1, none⟩ = some (.slice ao bs.length cap) ∧ w2.frozen? ⟨b, 1, none⟩ = false ∧
  Hid (Lib.BuilderAtF 66 5 B b (.pointer (some ⟨b, 0, none⟩)) (bs ++ more) (w2.setCell ⟨b, 1, none⟩ (.slice ao' (bs.length + more.length) cap')) ∧ Turn B b w (w2.setCell ⟨b, 1, none⟩ (.slice ao' (bs.length + more.length) cap')))

theorem wpList_push_str {ops : Array Oper} {rest : List Oper} {o : Oper} {a : Act} {Q : Exit → Act → World → Prop} (hgd : o.guard = none) (sl x : Operand)
    (ho : o.op = .call { callee := .builtin .append, args := #[sl, x], argTypes := #[64, 9] }) (s : ByteArray)
    (hs : a.eval sl = .slice ao bs.length cap) (hx : a.eval x = .string s) (h : Parts B b bs ao cap w) (hB : B ≤ w.heap.size) (hl : bs.length + s.size ≤ 1000000000)
    (k : ∀ ao' cap' w2, Pushed B b bs ao cap (Lib.strCells s) w ao' cap' w2 → wpList Tryz.prog ops Q rest (a.put o.dst (.slice ao' (bs.length + s.size) cap')) w2) : wpList Tryz.prog ops Q (o :: rest) a w := by
  obtain ⟨i0, hi, hz0, hz1, hz2⟩ := info_parts infoByte
  refine Lib.wpList_append_own_stringF w hgd sl x 64 9 ho B 5 i0 Tryz.underlying64 Tryz.underlying9 hi hz0 hz1 hz2 _ _ _ hs h.owns s hx (by unfold maxLen; omega) (by omega) hB ?_
  intro v' w2 hown hg _
  obtain ⟨ao', cap', rfl⟩ := slice_of hown
  have hb2 := h.other hg
  have hn : (Lib.strCells s).length = s.size := Lib.strCells_length s
  refine k ao' cap' w2 ⟨by simp [World.cell?, hb2], by simp [World.frozen?, hb2], ?_⟩
  rw [hn]
  exact h.put hB hg (by rw [hn]; exact hown)

theorem wpList_push_one {ops : Array Oper} {rest : List Oper} {o : Oper} {a : Act} {Q : Exit → Act → World → Prop} (hgd : o.guard = none) (sl x : Operand)
    (ho : o.op = .call { callee := .builtin .append, args := #[sl, x], argTypes := #[64, 64] }) (c : Int)
    (hs : a.eval sl = .slice ao bs.length cap) (hx : a.eval x = .slice (some ⟨w.heap.size, 0, none⟩) 1 1) (h : Parts B b bs ao cap w) (hB : B ≤ w.heap.size) (hl : bs.length + 1 ≤ 1000000000)
    (k : ∀ ao' cap' w2, Pushed B b bs ao cap [.int .u8 c] (w.alloc (.cells #[.int .u8 c] 5)) ao' cap' w2 → wpList Tryz.prog ops Q rest (a.put o.dst (.slice ao' (bs.length + 1) cap')) w2) : wpList Tryz.prog ops Q (o :: rest) a (w.alloc (.cells #[.int .u8 c] 5)) := by
  obtain ⟨i0, hi, hz0, hz1, hz2⟩ := info_parts infoByte
  have h' : Parts B b bs ao cap (w.alloc (.cells #[.int .u8 c] 5)) := ⟨h.above, (Below.heap_alloc w _ b (Array.getElem?_eq_some_iff.1 h.block).1).trans h.block, h.owns.alloc _, h.apart⟩
  refine wpList_append_ownF _ hgd sl x 64 ho B 5 i0 (.int .u8 0) 1 1 Tryz.underlying64 hi hz0 hz1 hz2 rfl (by decide) _ _ _ hs h'.owns ⟨w.heap.size, 0, none⟩ 1 1 [.int .u8 c] hx rfl ?_ ?_ (by unfold maxLen; omega) (by omega) (by simp; omega) ?_
  · intro j u hj
    match j, hj with
    | 0, hj => simp at hj; subst hj; simp [Addr.add]
  · intro u hu; simp at hu; subst hu; rfl
  intro v' w2 hown hg _
  obtain ⟨ao', cap', rfl⟩ := slice_of hown
  have hb2 := h'.other hg
  exact k ao' cap' w2 ⟨by simp [World.cell?, hb2], by simp [World.frozen?, hb2], h'.put (by simp; omega) hg hown⟩
end

section
variable {B b : Nat} {l : List UInt8} {w : World}

theorem bc_len (l : List UInt8) : (Lib.byteCells l).length = l.length := by simp [Lib.byteCells]
theorem bc_app (l : List UInt8) (s : ByteArray) : Lib.byteCells l ++ Lib.strCells s = Lib.byteCells (l ++ s.data.toList) := by simp [Lib.byteCells, Lib.strCells]
theorem bc_one (l : List UInt8) (c : UInt8) : Lib.byteCells l ++ [.int .u8 (c.toNat : Int)] = Lib.byteCells (l ++ [c]) := by simp [Lib.byteCells]

set_option maxHeartbeats 1000000 in
theorem wstr_any (s : ByteArray) (h : Bu B b l w) (hB : B ≤ w.heap.size) (hl : l.length + s.size ≤ 1000000000) :
    Calls Tryz.prog 33 #[.pointer (some ⟨b, 0, none⟩), .string s] w fun e w' => e = .returned (.tuple #[.int .i64 s.size, .nilIface]) ∧ Bu B b (l ++ s.data.toList) w' ∧ Turn B b w w' := by
  go_enter Tryz.func33, Tryz.ntmps33
  go_wp2_with fail
  refine (check_any B b _ _ h).mono ?_
  rintro e w1 ⟨rfl, ⟨ao, cap, P1⟩, B1, K1⟩
  have hsz : B ≤ w1.heap.size := Nat.le_trans hB B1.size
  obtain ⟨c1, _⟩ := P1.cell
  have HP := hid' P1
  have HT := hid' (show Turn B b w w1 from ⟨B1, K1⟩)
  have HL : Hid ((Lib.byteCells l).length + s.size ≤ 1000000000) := by show _ ≤ _; rw [bc_len]; exact hl
  have HA := hid' (bc_app l s)
  clear P1 B1 K1 h
  go_wp2_with (at_builtin; refine wpList_push_str rfl (.tmp 12) (.tmp 13) rfl s rfl rfl HP.out hsz HL.out ?_; intro ao' cap' w2 hp; obtain ⟨d1, f1, HN⟩ := hp)
  go_ret2
  obtain ⟨n1, n2⟩ := HN.out
  rw [HA.out] at n1
  rw [Lib.strCells_length] at n1 n2
  exact ⟨rfl, .inr n1, HT.out.trans n2⟩
end
end Go.Proofs.YteimhepmcjdbpaaGreatDoor
