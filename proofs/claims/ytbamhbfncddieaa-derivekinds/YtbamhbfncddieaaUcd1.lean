import Derived.Test.YtbamhbfncddieaaStg11
namespace Go.Proofs.Ytbamhbfncddieaa.Uc
open Go.RowKit

/-- What a code point has that isn't in the table. -/
def zTr : Tr := ⟨0, 0, 0, 0, 0⟩

/-- A book of these rows. -/
structure Book (w : World) (b : Nat) (L : List (SRow Tr)) (p : Nat) (rv : Value) : Prop where
  block : w.heap[b]? = some (.cells #[.pointer (some ⟨p, 0, none⟩), rv] 62)
  tab : Tab w p L zTr
  rows : VIn w rv L

theorem Book.step {w w' : World} {b : Nat} {L : List (SRow Tr)} {p : Nat} {rv : Value} (h : Book w b L p rv) (hb : Below w.heap.size w w') : Book w' b L p rv :=
  ⟨(hb.block b (Array.getElem?_eq_some_iff.1 h.block).1).trans h.block, h.tab.step hb, h.rows.step hb⟩
theorem Book.cell {w : World} {b : Nat} {L : List (SRow Tr)} {p : Nat} {rv : Value} (h : Book w b L p rv) : w.cell? ⟨b, 0, none⟩ = some (.pointer (some ⟨p, 0, none⟩)) ∧ w.cell? ⟨b, 1, none⟩ = some rv := by
  have := h.block
  simp [World.cell?, this]

theorem get_any {w : World} {p : Nat} {l : List (SRow Tr)} {other : Tr} (h : Tab w p l other) (r : Int) :
    Calls Try.prog 41 #[.pointer (some ⟨p, 0, none⟩), .int .i32 r] w fun e w' => e = .returned (trv (getV other l r)) ∧ Below w.heap.size w w' := by
  obtain ⟨f, vals, nr, bl, pl, h⟩ := h
  exact get_p h r

theorem run_fieldTr (x : Tr) (i : Nat) (v : Value) (hv : (trs x)[i]? = some v) (w : World) : (Instr.field 60 (.agg #[.int .i64 x.a, .int .i64 x.b, .int .i64 x.c, .int .i64 x.d, .int .i64 x.e]) i).run Try.prog w = .ok v w := by
  match i, hv with
  | 0, hv => simp [trs] at hv; subst hv; simp [Instr.field, run_underlying Try.underlying60, asAgg, part, isAgg, run_underlying Try.underlying3]
  | 1, hv => simp [trs] at hv; subst hv; simp [Instr.field, run_underlying Try.underlying60, asAgg, part, isAgg, run_underlying Try.underlying3]
  | 2, hv => simp [trs] at hv; subst hv; simp [Instr.field, run_underlying Try.underlying60, asAgg, part, isAgg, run_underlying Try.underlying3]
  | 3, hv => simp [trs] at hv; subst hv; simp [Instr.field, run_underlying Try.underlying60, asAgg, part, isAgg, run_underlying Try.underlying3]
  | 4, hv => simp [trs] at hv; subst hv; simp [Instr.field, run_underlying Try.underlying60, asAgg, part, isAgg, run_underlying Try.underlying3]
  | j + 5, hv => simp [trs] at hv

section
variable {w : World} {b : Nat} {L : List (SRow Tr)} {p : Nat} {rv : Value}

theorem kind_any (h : Book w b L p rv) (r : Int) :
    Calls Try.prog 17 #[.pointer (some ⟨b, 0, none⟩), .int .i32 r] w fun e w' => e = .returned (.int .i64 (getV zTr L r).a) ∧ Below w.heap.size w w' := by
  obtain ⟨c0, _⟩ := h.cell
  have HG := hid (get_any h.tab r)
  clear h
  generalize getV zTr L r = x at *
  unfold trv at HG
  have hfd : ∀ w, (Instr.field 60 (.agg #[.int .i64 x.a, .int .i64 x.b, .int .i64 x.c, .int .i64 x.d, .int .i64 x.e]) 0).run Try.prog w = .ok (.int .i64 x.a) w := run_fieldTr x 0 _ rfl
  go_enter Try.func17, Try.ntmps17
  go_wp2_with fail
  refine HG.out.mono ?_
  rintro e w1 ⟨rfl, hb⟩
  go_wp2_with fail
  go_ret
  exact ⟨rfl, hb⟩


theorem script_any (h : Book w b L p rv) (r : Int) :
    Calls Try.prog 84 #[.pointer (some ⟨b, 0, none⟩), .int .i32 r] w fun e w' => e = .returned (.int .i64 (getV zTr L r).c) ∧ Below w.heap.size w w' := by
  obtain ⟨c0, _⟩ := h.cell
  have HG := hid (get_any h.tab r)
  clear h
  generalize getV zTr L r = x at *
  unfold trv at HG
  have hfd : ∀ w, (Instr.field 60 (.agg #[.int .i64 x.a, .int .i64 x.b, .int .i64 x.c, .int .i64 x.d, .int .i64 x.e]) 2).run Try.prog w = .ok (.int .i64 x.c) w := run_fieldTr x 2 _ rfl
  go_enter Try.func84, Try.ntmps84
  go_wp2_with fail
  refine HG.out.mono ?_
  rintro e w1 ⟨rfl, hb⟩
  go_wp2_with fail
  go_ret
  exact ⟨rfl, hb⟩

theorem class_any (h : Book w b L p rv) (r : Int) :
    Calls Try.prog 26 #[.pointer (some ⟨b, 0, none⟩), .int .i32 r] w fun e w' => e = .returned (.int .i64 (getV zTr L r).d) ∧ Below w.heap.size w w' := by
  obtain ⟨c0, _⟩ := h.cell
  have HG := hid (get_any h.tab r)
  clear h
  generalize getV zTr L r = x at *
  unfold trv at HG
  have hfd : ∀ w, (Instr.field 60 (.agg #[.int .i64 x.a, .int .i64 x.b, .int .i64 x.c, .int .i64 x.d, .int .i64 x.e]) 3).run Try.prog w = .ok (.int .i64 x.d) w := run_fieldTr x 3 _ rfl
  go_enter Try.func26, Try.ntmps26
  go_wp2_with fail
  refine HG.out.mono ?_
  rintro e w1 ⟨rfl, hb⟩
  go_wp2_with fail
  go_ret
  exact ⟨rfl, hb⟩

theorem join_any (h : Book w b L p rv) (r : Int) :
    Calls Try.prog 104 #[.pointer (some ⟨b, 0, none⟩), .int .i32 r] w fun e w' => e = .returned (.int .i64 (getV zTr L r).e) ∧ Below w.heap.size w w' := by
  obtain ⟨c0, _⟩ := h.cell
  have HG := hid (get_any h.tab r)
  clear h
  generalize getV zTr L r = x at *
  unfold trv at HG
  have hfd : ∀ w, (Instr.field 60 (.agg #[.int .i64 x.a, .int .i64 x.b, .int .i64 x.c, .int .i64 x.d, .int .i64 x.e]) 4).run Try.prog w = .ok (.int .i64 x.e) w := run_fieldTr x 4 _ rfl
  go_enter Try.func104, Try.ntmps104
  go_wp2_with fail
  refine HG.out.mono ?_
  rintro e w1 ⟨rfl, hb⟩
  go_wp2_with fail
  go_ret
  exact ⟨rfl, hb⟩

/-- What the chapter's examples ask of the rows. -/
structure Awake (L : List (SRow Tr)) : Prop where
  k41 : (getV zTr L 65).a = 1
  s41 : (getV zTr L 65).c = 1
  c301 : (getV zTr L 769).d = 230
  k301 : (getV zTr L 769).a = 5
  kE01 : (getV zTr L 3585).a = 0

end
end Go.Proofs.Ytbamhbfncddieaa.Uc
