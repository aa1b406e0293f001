import Derived.Test.YtclcmkklonnalaaGreatBase
import Derived.Shelf.Strings.BuilderRune
import Derived.Lib.OthersKept
import Derived.BigCall
namespace Go.Proofs.YtclcmkklonnalaaGreat.Ut
open Go.Shelf Go.RowKit

/-- Where the library's own numbers lie in this program: what String takes. -/
def strRen : Ren := ⟨fun | 169 => 83 | n => n, fun | 70 => 123 | 9 => 9 | 0 => 0 | 72 => 126 | 37 => 124 | 127 => 162 | 3 => 3 | 5 => 5 | n => n, fun | n => n⟩
theorem strLays : Lays.n169 Tryz.prog strRen := {
  mixed := by kernel_rfl
  f169 := Tryz.func83.trans (congrArg some (by kernel_rfl))
  t0 := Tryz.underlying0
  a0 := Tryz.isAgg0
  z0 := Tryz.sizeOf0
  v0 := Tryz.zeroValue0
  t3 := Tryz.underlying3
  a3 := Tryz.isAgg3
  z3 := Tryz.sizeOf3
  v3 := Tryz.zeroValue3
  t9 := Tryz.underlying9
  a9 := Tryz.isAgg9
  z9 := Tryz.sizeOf9
  v9 := Tryz.zeroValue9
  t37 := Tryz.underlying124
  a37 := Tryz.isAgg124
  z37 := Tryz.sizeOf124
  v37 := Tryz.zeroValue124
  t70 := Tryz.underlying123
  a70 := Tryz.isAgg123
  z70 := Tryz.sizeOf123
  v70 := Tryz.zeroValue123
  t72 := Tryz.underlying126
  a72 := Tryz.isAgg126
  z72 := Tryz.sizeOf126
  v72 := Tryz.zeroValue126
  t127 := Tryz.underlying162
  a127 := Tryz.isAgg162
  z127 := Tryz.sizeOf162
  v127 := Tryz.zeroValue162 }
theorem strExtra : Builder.Extra Tryz.prog strRen := {
  sizeBuilder := by kernel_rfl
  liesBuilder := by kernel_rfl
  t5 := Tryz.underlying5
  a5 := Tryz.isAgg5
  z5 := Tryz.sizeOf5
  v5 := Tryz.zeroValue5
  infoByte := by kernel_rfl
  cellsByte := by kernel_rfl
  sizeByte := by kernel_rfl
  neB5 := by decide }

/-- What a builder holds, as a string. -/
theorem bstr_any (B b : Nat) (l : List UInt8) (w : World) (h : Lib.IsBuilderF 126 5 B b (Lib.byteCells l) w) (hBw : B ≤ w.heap.size) :
    Calls Tryz.prog 83 #[.pointer (some ⟨b, 0, none⟩)] w fun e w' => e = .returned (.string ⟨l.toArray⟩) ∧ (Lib.IsBuilderF 126 5 B b (Lib.byteCells l) w' ∧ Below B w w' ∧ Lib.OthersKept 5 (some b) w w') := Any.Builder_String_any_k strLays strExtra B b l w h hBw

/-- What AppendRune takes. -/
def appRen : Ren := ⟨fun | 242 => 108 | 278 => 123 | n => n, fun | 37 => 124 | 21 => 21 | 51 => 171 | 4 => 4 | 5 => 5 | 46 => 174 | 72 => 126 | n => n, fun | n => n⟩
theorem appLays : Lays.n242 Tryz.prog appRen := {
  mixed := by kernel_rfl
  f242 := Tryz.func108.trans (congrArg some (by kernel_rfl))
  f278 := Tryz.func123.trans (congrArg some (by kernel_rfl))
  t4 := Tryz.underlying4
  a4 := Tryz.isAgg4
  z4 := Tryz.sizeOf4
  v4 := Tryz.zeroValue4
  t5 := Tryz.underlying5
  a5 := Tryz.isAgg5
  z5 := Tryz.sizeOf5
  v5 := Tryz.zeroValue5
  t21 := Tryz.underlying21
  a21 := Tryz.isAgg21
  z21 := Tryz.sizeOf21
  v21 := Tryz.zeroValue21
  t37 := Tryz.underlying124
  a37 := Tryz.isAgg124
  z37 := Tryz.sizeOf124
  v37 := Tryz.zeroValue124
  t46 := Tryz.underlying174
  a46 := Tryz.isAgg174
  z46 := Tryz.sizeOf174
  v46 := Tryz.zeroValue174
  t51 := Tryz.underlying171
  a51 := Tryz.isAgg171
  z51 := Tryz.sizeOf171
  v51 := Tryz.zeroValue171 }
theorem appExtra : Builder.Extra Tryz.prog appRen := {
  sizeBuilder := by kernel_rfl
  liesBuilder := by kernel_rfl
  t5 := Tryz.underlying5
  a5 := Tryz.isAgg5
  z5 := Tryz.sizeOf5
  v5 := Tryz.zeroValue5
  infoByte := by kernel_rfl
  cellsByte := by kernel_rfl
  sizeByte := by kernel_rfl
  neB5 := by decide }

theorem app_any (B : Nat) (v : Value) (n : Nat) (xs : List Value) (r : Int) (hr0 : -2147483648 ≤ r) (hr1 : r ≤ 2147483647) (w : World) (hown : w.ownsRowF B 5 1 v n xs) (hlen : n + 4 ≤ 140737488355328) (hBw : B ≤ w.heap.size) :
    Calls Tryz.prog 108 #[v, .int .i32 r] w fun e w' => ∃ v', e = .returned v' ∧ w'.ownsRowF B 5 1 v' (n + (Lib.runeCells r).length) (xs ++ Lib.runeCells r) ∧ ∃ o, (w.alloc o).grownBy w' v.ownBlock :=
  Any.utf8_AppendRune_own appLays appExtra B v n xs r hr0 hr1 w hown hlen hBw
theorem sizeBld : (Tryz.prog.info? 126).map (fun i => i.size) = some 2 := by kernel_rfl

set_option maxRecDepth 100000 in
theorem check_used (b : Nat) (w : World) (h0 : w.cell? ⟨b, 0, none⟩ = some (.pointer (some ⟨b, 0, none⟩))) :
    Calls Tryz.prog 107 #[.pointer (some ⟨b, 0, none⟩)] w fun e w' => e = .returned (.tuple #[]) ∧ w' = w := by
  obtain ⟨j, hj, _⟩ := Option.map_eq_some_iff.1 sizeBld
  go_enter Tryz.func107, Tryz.ntmps107
  go_wp2
  rw [Lib.run_neq_ptr_same w _ Tryz.underlying123 hj]
  go_wp2
  go_end0
  exact ⟨rfl, rfl⟩

set_option maxRecDepth 100000 in
theorem check_fresh (b : Nat) (w : World) (h0 : w.cell? ⟨b, 0, none⟩ = some (.pointer none)) (hsh : w.shape? b = some (126, 2)) (hfz : w.frozen? ⟨b, 0, none⟩ = false) :
    Calls Tryz.prog 107 #[.pointer (some ⟨b, 0, none⟩)] w fun e w' => e = .returned (.tuple #[]) ∧ w' = w.setCell ⟨b, 0, none⟩ (.pointer (some ⟨b, 0, none⟩)) := by
  obtain ⟨j, hj, hjs⟩ := Option.map_eq_some_iff.1 sizeBld
  go_enter Tryz.func107, Tryz.ntmps107
  go_wp2
  rw [Lib.run_to_unsafe w ⟨b, 0, none⟩ Tryz.underlying123 Tryz.underlying169 hj (by omega) hsh (Nat.zero_lt_succ 1)]
  simp only [Result.andThen]
  rw [Oper.upon_value]
  go_wp2
  rw [run_callFunc_extern Tryz.func122 (by kernel_rfl) (by kernel_rfl) (by kernel_rfl) (e := Extern.AbiNoEscape.same) (by kernel_rfl)]
  rw [Lib.run_noEscape]
  simp only [Result.andThen]
  rw [Oper.upon_value]
  go_wp2
  rw [Lib.run_from_unsafe w ⟨b, 0, none⟩ Tryz.underlying169 Tryz.underlying123 hj hsh (by kernel_rfl)]
  simp only [Result.andThen]
  rw [Oper.upon_value]
  go_wp2
  go_end0
  exact ⟨rfl, rfl⟩

/-- A builder that has been used, taken apart once: its two cells, the row that it owns, and that it may be written. -/
structure Parts (B b : Nat) (bs : List Value) (ao : Option Addr) (cap : Nat) (w : World) : Prop where
  above : B ≤ b
  block : w.heap[b]? = some (.cells #[.pointer (some ⟨b, 0, none⟩), .slice ao bs.length cap] 126)
  owns : w.ownsRowF B 5 1 (.slice ao bs.length cap) bs.length bs
  apart : (Value.slice ao bs.length cap).ownBlock ≠ some b

theorem Parts.of {B b : Nat} {bs : List Value} {w : World} (h : Lib.BuilderAtF 126 5 B b (.pointer (some ⟨b, 0, none⟩)) bs w) : ∃ ao cap, Parts B b bs ao cap w := by
  obtain ⟨hB, v, hbk, hown, hne⟩ := h
  have hv : ∃ ao cap, v = .slice ao bs.length cap := by
    cases hown.2 with
    | inl q => exact ⟨none, 0, by rw [q.1, q.2]⟩
    | inr q => obtain ⟨g, cap, _, _, e, _⟩ := q; exact ⟨some ⟨g, 0, none⟩, cap, e⟩
  obtain ⟨ao, cap, e⟩ := hv
  rw [e] at hbk hown hne
  exact ⟨ao, cap, hB, hbk, hown, hne⟩

theorem Parts.cell {B b : Nat} {bs : List Value} {ao : Option Addr} {cap : Nat} {w : World} (h : Parts B b bs ao cap w) : w.cell? ⟨b, 1, none⟩ = some (.slice ao bs.length cap) ∧ w.frozen? ⟨b, 1, none⟩ = false := by
  have hb := h.block
  simp [World.cell?, World.frozen?, hb]

/-- Behind an append onto its row a builder's two cells are as they were. -/
theorem Parts.grown {B b : Nat} {bs : List Value} {ao : Option Addr} {cap : Nat} {w w2 : World} {o : Obj} (h : Parts B b bs ao cap w) (hg : (w.alloc o).grownBy w2 (Value.slice ao bs.length cap).ownBlock) :
    w2.heap[b]? = some (.cells #[.pointer (some ⟨b, 0, none⟩), .slice ao bs.length cap] 126) := by
  have hlt := (Array.getElem?_eq_some_iff.1 h.block).1
  have e1 := hg.block b (by rw [World.size_alloc]; omega) fun e => h.apart e.symm
  exact e1.trans ((Below.heap_alloc w o b hlt).trans h.block)

/-- What holds once the grown row is stored: a builder of more bytes; nothing below B has turned, and no other block but rows of bytes. -/
theorem Parts.stored {B b : Nat} {bs more : List Value} {ao : Option Addr} {cap : Nat} {w0 w w2 : World} {o : Obj} {v : Value} (h : Parts B b bs ao cap w) (hg : (w.alloc o).grownBy w2 (Value.slice ao bs.length cap).ownBlock)
    (hv : w2.ownsRowF B 5 1 v (bs.length + more.length) (bs ++ more)) (hbel : Below B w0 w) (hsz : B ≤ w.heap.size) (hk : Lib.OthersKept 5 (some b) w0 w) :
    Lib.BuilderAtF 126 5 B b (.pointer (some ⟨b, 0, none⟩)) (bs ++ more) (w2.setCell ⟨b, 1, none⟩ v) ∧ Below B w0 (w2.setCell ⟨b, 1, none⟩ v) ∧ Lib.OthersKept 5 (some b) w0 (w2.setCell ⟨b, 1, none⟩ v) := by
  have hsum : (bs ++ more).length = bs.length + more.length := List.length_append
  have hbw : Below B w0 (w.alloc o) := hbel.alloc hsz o
  have hrow : ∀ k, (Value.slice ao bs.length cap).ownBlock = some k → B ≤ k := fun k e => (h.owns.lt k e).1
  have hbw2 : Below B w0 w2 := hbw.grown hg (by rw [World.size_alloc]; omega) hrow
  have hkw2 := (hk.alloc o).grown hg (Lib.ownsRowF_kind (h.owns.alloc o))
  refine ⟨?_, hbw2.setCell (p := ⟨b, 1, none⟩) h.above v, hkw2.setCell ⟨b, 1, none⟩ rfl v⟩
  rw [← hsum] at hv
  exact Lib.BuilderAtF.put h.above (h.grown hg) hv (by decide)

theorem check_any (B b : Nat) (bs : List Value) (w : World) (h : Lib.IsBuilderF 126 5 B b bs w) :
    Calls Tryz.prog 107 #[.pointer (some ⟨b, 0, none⟩)] w fun e w' => e = .returned (.tuple #[]) ∧ (∃ ao cap, Parts B b bs ao cap w') ∧ Below B w w' ∧ Lib.OthersKept 5 (some b) w w' := by
  cases h with
  | inl q =>
    refine (check_fresh b w q.cell0 q.shape q.frozen0).mono fun e w' r => ?_
    obtain ⟨r1, r2⟩ := r
    rw [r2]
    exact ⟨r1, Parts.of (q.used _), (Below.refl B w).setCell (p := ⟨b, 0, none⟩) q.1 _, (Lib.OthersKept.refl 5 (some b) w).setCell ⟨b, 0, none⟩ rfl _⟩
  | inr q =>
    refine (check_used b w q.cell0).mono fun e w' r => ?_
    obtain ⟨r1, r2⟩ := r
    rw [r2]
    exact ⟨r1, Parts.of q, Below.refl B w, Lib.OthersKept.refl 5 (some b) w⟩

/-- The value that an append of something hands back is no nil slice. -/
theorem own_some {w : World} {B n m : Nat} {e : TypeId} {v : Value} {xs : List Value} (h : w.ownsRowF B e 1 v (n + m) xs) (hm : 1 ≤ m) : ∃ g cap, v = .slice (some ⟨g, 0, none⟩) (n + m) cap := by
  cases h.2 with
  | inl q => omega
  | inr q => obtain ⟨g, cap, _, _, e, _⟩ := q; exact ⟨g, cap, e⟩

set_option maxHeartbeats 2000000 in
set_option maxRecDepth 100000 in
theorem wrune_any (B b : Nat) (bs : List Value) (r : Int) (hr0 : -2147483648 ≤ r) (hr1 : r ≤ 2147483647) (w : World) (h : Lib.IsBuilderF 126 5 B b bs w) (hlen : bs.length + 4 ≤ 140737488355328) (hBw : B ≤ w.heap.size) :
    Calls Tryz.prog 82 #[.pointer (some ⟨b, 0, none⟩), .int .i32 r] w fun e w' => e = .returned (.tuple #[.int .i64 (Lib.runeCells r).length, .nilIface]) ∧ (Lib.BuilderAtF 126 5 B b (.pointer (some ⟨b, 0, none⟩)) (bs ++ Lib.runeCells r) w' ∧ Below B w w' ∧ Lib.OthersKept 5 (some b) w w') := by
  have h4 := Lib.runeCells_le r
  generalize hm : (Lib.runeCells r).length = m at h4
  have HM : Hid ((Lib.runeCells r).length = m) := hm
  clear hm
  go_enter Tryz.func82, Tryz.ntmps82
  go_wp2_with fail
  refine (check_any B b bs _ h).mono ?_
  rintro e w1 ⟨rfl, ⟨ao, cap, P1⟩, B1, K1⟩
  have hsz : B ≤ w1.heap.size := Nat.le_trans hBw B1.size
  obtain ⟨c1, _⟩ := P1.cell
  go_wp2_with fail
  refine (app_any B _ bs.length bs r hr0 hr1 _ P1.owns hlen hsz).mono ?_
  rintro e w2 ⟨v, rfl, O2, o, G2⟩
  have hb2 := P1.grown G2
  have d1 : w2.cell? ⟨b, 1, none⟩ = some (.slice ao bs.length cap) := by simp [World.cell?, hb2]
  have z1 : w2.frozen? ⟨b, 1, none⟩ = false := by simp [World.frozen?, hb2]
  have S2 : Hid _ := P1.stored G2 O2 B1 hsz K1
  rw [HM.out] at O2
  obtain ⟨g, cap2, hv⟩ := own_some O2 h4.1
  rw [hv] at S2
  rw [hv]
  clear hb2 O2 G2 K1 hv
  go_wp2
  go_ret2
  exact ⟨ret_two (int_eq (by omega)) rfl, S2.out⟩
end Go.Proofs.YtclcmkklonnalaaGreat.Ut
