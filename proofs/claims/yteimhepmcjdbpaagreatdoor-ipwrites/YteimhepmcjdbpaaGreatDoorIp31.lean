import Derived.Test.YteimhepmcjdbpaaGreatDoorIp29
import Derived.Test.YteimhepmcjdbpaaGreatDoorIpD
import Derived.Deep.Slices
import Derived.ChangeSame
import Derived.OpenShut
import Derived.ChangeOld
namespace Go.Proofs.YteimhepmcjdbpaaGreatDoor
open Go.RowKit Go.ChangeShapes Go.WideShapes
namespace Ip

/-! An array of numbers, handed in by value: how it reads. -/
theorem okWide_array {P : Program} {w : World} {r : Reach} {base : Nat} {t : TypeId} {v : Value} {n : Nat} {e : TypeId} (ht : P.underlying t = some (.array n e)) (h : Value.okWide P w r base t v) : ∃ cs, v = .agg cs ∧ cs.size = P.cellsOf t := by
  simp only [Value.okWide, ht] at h
  obtain ⟨cs, h1, h2, _⟩ := h
  exact ⟨cs, h1, h2⟩
theorem open_ints {H : Type} {enc : TypeId × Value → H} {P : Program} {w : World} {r : Reach} {b0 base : Nat} {spare : Nat → Bool} {held : Bool} {t e : TypeId} {n : Nat} {k : IntKind} {v : Value} {d : DataW H} {p : List MemPlace}
    (ht : P.underlying t = some (.array n e)) (he : P.underlying e = some (.int k)) (c1 : P.cellsOf e = 1) (cn : P.cellsOf t = n)
    (hv : Value.okWide P w r b0 t v) (h : DataW.Trod enc P w base spare held t v d p) :
    ∃ zs : List Int, v = .agg (zs.map fun z => Value.int k z).toArray ∧ zs.length = n ∧ ∀ z ∈ zs, (Lit.int k z).wf = true := by
  obtain ⟨cs, rfl, hsz⟩ := okWide_array ht hv
  obtain ⟨fuel, hf⟩ := h
  obtain ⟨xs, m, _, _, hl, hxl, hx⟩ := DataW.trod_array ht hf
  rw [cn] at hsz
  have each : ∀ i, i < n → ∃ z, cs[i]? = some (.int k z) ∧ (Lit.int k z).wf = true := by
    intro i hi
    have h1 := hx i hi
    rw [c1, Nat.mul_one, List.getElem?_eq_getElem (by omega)] at h1
    have e1 : ((Value.agg cs).cells.toList.drop i).take 1 = [cs[i]'(by omega)] := by
      rw [show (Value.agg cs).cells = cs from rfl, List.drop_eq_getElem_cons (by simpa using (by omega : i < cs.size))]
      simp
    rw [e1] at h1
    obtain ⟨z, q, _, hw⟩ := DataW.trod_int he h1
    simp at q
    exact ⟨z, by rw [Array.getElem?_eq_getElem (by omega), q], hw⟩
  by_cases h0 : n = 0
  · subst h0
    have : cs = #[] := Array.eq_empty_of_size_eq_zero hsz
    exact ⟨[], by rw [this]; rfl, rfl, fun z hz => by simp at hz⟩
  obtain ⟨z0, _⟩ := each 0 (by omega)
  obtain ⟨q, hq⟩ := Deep.choose_lt (α := Int) (p := fun i z => cs[i]? = some (.int k z) ∧ (Lit.int k z).wf = true) each
  refine ⟨(List.range n).map q, ?_, by simp, fun z hz => ?_⟩
  · congr 1
    apply Array.ext
    · simp [hsz]
    · intro i h1 h2
      have h3 := (hq i (by omega)).1
      rw [Array.getElem?_eq_getElem h1] at h3
      have h4 := Option.some.inj h3
      rw [h4]; simp
  · obtain ⟨j, hj, rfl⟩ := List.mem_map.1 hz
    exact (hq j (List.mem_range.1 hj)).2

theorem cellsU8 : Tryz.prog.cellsOf 5 = 1 := by kernel_rfl
theorem cellsU16 : Tryz.prog.cellsOf 26 = 1 := by kernel_rfl
theorem cellsB4 : Tryz.prog.cellsOf 23 = 4 := by kernel_rfl
theorem cellsW8 : Tryz.prog.cellsOf 27 = 8 := by kernel_rfl
theorem wf_u8 {n : Int} (h : (Lit.int .u8 n).wf = true) : 0 ≤ n ∧ n ≤ 255 := by
  simp only [Lit.wf, Bool.and_eq_true, decide_eq_true_eq] at h
  simp [IntKind.min, IntKind.max, IntKind.signed, IntKind.bits] at h; omega
theorem wf_u16 {n : Int} (h : (Lit.int .u16 n).wf = true) : 0 ≤ n ∧ n ≤ 65535 := by
  simp only [Lit.wf, Bool.and_eq_true, decide_eq_true_eq] at h
  simp [IntKind.min, IntKind.max, IntKind.signed, IntKind.bits] at h; omega
set_option maxRecDepth 100000 in
theorem open_b4 {H : Type} {enc : TypeId × Value → H} {w : World} {r : Reach} {b0 base : Nat} {spare : Nat → Bool} {held : Bool} {v : Value} {d : DataW H} {p : List MemPlace}
    (hv : Value.okWide Tryz.prog w r b0 23 v) (h : DataW.Trod enc Tryz.prog w base spare held 23 v d p) :
    ∃ a b c d, v = .agg #[.int .u8 a, .int .u8 b, .int .u8 c, .int .u8 d] ∧ ∀ x ∈ [a, b, c, d], 0 ≤ x ∧ x ≤ 255 := by
  obtain ⟨zs, rfl, hl, hw⟩ := open_ints Tryz.underlying23 Tryz.underlying5 cellsU8 cellsB4 hv h
  obtain ⟨a, b, c, d, rfl⟩ := four hl
  exact ⟨a, b, c, d, rfl, fun x hx => wf_u8 (hw x hx)⟩
set_option maxRecDepth 100000 in
theorem open_w8 {H : Type} {enc : TypeId × Value → H} {w : World} {r : Reach} {b0 base : Nat} {spare : Nat → Bool} {held : Bool} {v : Value} {d : DataW H} {p : List MemPlace}
    (hv : Value.okWide Tryz.prog w r b0 27 v) (h : DataW.Trod enc Tryz.prog w base spare held 27 v d p) :
    ∃ x0 x1 x2 x3 x4 x5 x6 x7, v = .agg #[.int .u16 x0, .int .u16 x1, .int .u16 x2, .int .u16 x3, .int .u16 x4, .int .u16 x5, .int .u16 x6, .int .u16 x7] ∧ ∀ x ∈ [x0, x1, x2, x3, x4, x5, x6, x7], 0 ≤ x ∧ x ≤ 65535 := by
  obtain ⟨zs, rfl, hl, hw⟩ := open_ints Tryz.underlying27 Tryz.underlying26 cellsU16 cellsW8 hv h
  obtain ⟨x0, x1, x2, x3, x4, x5, x6, x7, e⟩ := eight hl
  exact ⟨x0, x1, x2, x3, x4, x5, x6, x7, congrArg (fun l : List Int => Value.agg (l.map fun z => Value.int .u16 z).toArray) e, fun x hx => wf_u16 (hw x (e ▸ hx))⟩

/-! The powers of ten, out of the door's row. -/
theorem pow_list : Lib.pow10Tab = [1, 10, 100, 1000, 10000, 100000, 1000000, 10000000, 100000000, 1000000000, 10000000000, 100000000000, 1000000000000, 10000000000000, 100000000000000, 1000000000000000, 10000000000000000, 100000000000000000, 1000000000000000000, 10000000000000000000] := by decide +kernel
theorem pow_is {H : Type} : (Rows.laid_internal_strconv_uint64pow10 : DataW H) = Lib.tabData .u64 Lib.pow10Tab := by rw [pow_list]; rfl
theorem tpow : (Tryz.prog.globals[3]?).map (·.type) = some 140 := by kernel_rfl
theorem tb_of {W : World} (h : laidMetH Tryz.prog doorL W) (h8 : 8 ≤ W.heap.size) : Tb W := by
  rw [MakeChecks.laidMetH_plain _ _ _ doorPlain] at h
  have h2 := laidMet.tail (laidMet.tail h)
  rw [pow_is] at h2
  exact ⟨Lib.tabIs_of_head gpow tpow Tryz.underlying140 Tryz.underlying90 (by kernel_rfl) (by kernel_rfl) h2, h8⟩
end Ip
end Go.Proofs.YteimhepmcjdbpaaGreatDoor
