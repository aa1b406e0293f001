import Derived.Test.YtbamhbfncddieaaPr3
import Derived.Maps.OwnOps
namespace Go.Proofs.Ytbamhbfncddieaa.Pr
open Go.RowKit Go.Lib
set_option maxRecDepth 100000
open Go.Maps (Keyed IsMap)

/-! ### Maps as functions -/

/-- The map tells of each key what the function does. -/
structure MapIs {κ : Type} (D : DataW Unit) (kl : κ → Lit) (ok : κ → Prop) (f : κ → Option (DataW Unit)) : Prop where
  isMap : IsMap D
  at' : ∀ k, ok k → ∀ z, D.atKey (kl k) z = (f k).getD z
  has : ∀ k, ok k → Maps.has D (kl k) = (f k).isSome

theorem MapIs.nil {κ : Type} (kl : κ → Lit) (ok : κ → Prop) : MapIs (.map []) kl ok (fun _ => none) := ⟨Maps.isMap_empty, fun _ _ _ => rfl, fun _ _ => rfl⟩
theorem MapIs.put {κ : Type} [DecidableEq κ] {D : DataW Unit} {kl : κ → Lit} {ok : κ → Prop} {f : κ → Option (DataW Unit)} (h : MapIs D kl ok f) (inj : ∀ a b, ok a → ok b → kl a = kl b → a = b) {k : κ} (hk : ok k) (hl : WideAt.IsKeyLit (kl k)) (d : DataW Unit) :
    MapIs (D.put (kl k) d) kl ok (fun x => if x = k then some d else f x) := by
  refine ⟨h.isMap.put _ _, fun x hx z => ?_, fun x hx => ?_⟩
  · by_cases e : x = k
    · subst e; rw [if_pos rfl, Maps.atKey_put_same h.isMap hl]; rfl
    · rw [if_neg e, Maps.atKey_put_other (fun e2 => e (inj _ _ hx hk e2))]; exact h.at' x hx z
  · by_cases e : x = k
    · subst e; rw [if_pos rfl, Maps.has_put_same h.isMap hl]; rfl
    · rw [if_neg e, Maps.has_put_other (fun e2 => e (inj _ _ hx hk e2))]; exact h.has x hx

def I32 (r : Int) : Prop := -2147483648 ≤ r ∧ r ≤ 2147483647
theorem I32.wf {r : Int} (h : I32 r) : (Lit.int .i32 r).wf = true := by
  have e1 : IntKind.i32.min = -2147483648 := by decide
  have e2 : IntKind.i32.max = 2147483647 := by decide
  simp only [Lit.wf, e1, e2, Bool.and_eq_true, decide_eq_true_eq]; exact h
def I64 (r : Int) : Prop := 0 ≤ r ∧ r ≤ 1000000
theorem I64.wf {r : Int} (h : I64 r) : (Lit.int .i64 r).wf = true := by
  have e1 : IntKind.i64.min = -9223372036854775808 := by decide
  have e2 : IntKind.i64.max = 9223372036854775807 := by decide
  obtain ⟨h1, h2⟩ := h
  simp only [Lit.wf, e1, e2, Bool.and_eq_true, decide_eq_true_eq]; omega

/-- What a code point is made of, and how many. -/
abbrev Pt := Int × Int × Int
def pv (x : Pt) : Value := .agg #[.int .i32 x.1, .int .i32 x.2.1, .int .i64 x.2.2]
def pd (x : Pt) : DataW Unit := .agg [.lit (.int .i32 x.1), .lit (.int .i32 x.2.1), .lit (.int .i64 x.2.2)]
/-- How parts read. -/
def R1 : Value → Option (DataW Unit × List MemPlace)
  | .agg ⟨[.int .i32 a, .int .i32 b, .int .i64 n]⟩ => some (pd (a, b, n), [])
  | _ => none
theorem R1_pv (x : Pt) : R1 (pv x) = some (pd x, []) := rfl
theorem R1_inv {v : Value} {x : Pt} {ps : List MemPlace} (h : R1 v = some (pd x, ps)) : v = pv x := by
  unfold R1 at h
  split at h
  · simp only [pd, Option.some.injEq, Prod.mk.injEq, DataW.agg.injEq, List.cons.injEq, DataW.lit.injEq, Lit.int.injEq, true_and, and_true] at h
    obtain ⟨⟨h1, h2, h3⟩, _⟩ := h
    subst h1 h2 h3; rfl
  · exact absurd h (by simp)

def k32 (r : Int) : Lit := .int .i32 r
theorem k32_inj : ∀ a b, I32 a → I32 b → k32 a = k32 b → a = b := fun a b _ _ h => by simpa [k32] using h
theorem Try.law32 : Keyed Try.prog 21 := Maps.int_keyed Try.underlying21
theorem key32 {r : Int} (h : I32 r) : keyOf Try.prog 21 (.int .i32 r) = some (k32 r) := by
  unfold keyOf
  simp only [Try.underlying21]
  unfold mapKey
  simp [Try.underlying21, h.wf, k32]

/-- The map of what code points are made of. -/
def DownW (w : World) (b n : Nat) (f : Int → Option Pt) (sz : Nat) : Prop :=
  ∃ D, w.ownsMap Try.prog 21 R1 b n D ∧ MapIs D k32 I32 (fun r => (f r).map pd) ∧ Maps.size D = sz

theorem zero_parts (w : World) : (zeroValue 72).run Try.prog w = .ok (pv (0, 0, 0)) w := by
  have h : (Try.prog.info? 72).map (fun i => i.zero) = some (some (pv (0, 0, 0))) := by kernel_rfl
  obtain ⟨i, hi, hz⟩ := Option.map_eq_some_iff.1 h
  simp [zeroValue, typeInfo, hi, hz]
theorem zero_i64 (w : World) : (zeroValue 3).run Try.prog w = .ok (.int .i64 0) w := by
  have h : (Try.prog.info? 3).map (fun i => i.zero) = some (some (.int .i64 0)) := by kernel_rfl
  obtain ⟨i, hi, hz⟩ := Option.map_eq_some_iff.1 h
  simp [zeroValue, typeInfo, hi, hz]
theorem zero_i32 (w : World) : (zeroValue 21).run Try.prog w = .ok (.int .i32 0) w := by
  have h : (Try.prog.info? 21).map (fun i => i.zero) = some (some (.int .i32 0)) := by kernel_rfl
  obtain ⟨i, hi, hz⟩ := Option.map_eq_some_iff.1 h
  simp [zeroValue, typeInfo, hi, hz]

theorem DownW.look {w : World} {b n sz : Nat} {f : Int → Option Pt} (h : DownW w b n f sz) {r : Int} (hr : I32 r) :
    (Instr.lookup 63 (.map (some b)) (.int .i32 r) false).run Try.prog w = .ok (pv ((f r).getD (0, 0, 0))) w := by
  obtain ⟨D, ho, hm, _⟩ := h
  obtain ⟨v, ps, hrun, hv⟩ := ho.lookup Try.law32 Try.underlying63 (zero_parts w) (R1_pv (0, 0, 0)) (key32 hr)
  rw [hm.at' r hr] at hv
  have e : ((f r).map pd).getD (pd (0, 0, 0)) = pd ((f r).getD (0, 0, 0)) := by cases f r <;> rfl
  rw [e] at hv
  rw [hrun, R1_inv hv]
theorem DownW.upd {w : World} {b n sz : Nat} {f : Int → Option Pt} (h : DownW w b n f sz) (hn : n < 5000) {r : Int} (hr : I32 r) (x : Pt) :
    ∃ w', (Instr.mapUpdate 63 (.map (some b)) (.int .i32 r) (pv x)).run Try.prog w = .ok () w' ∧ DownW w' b (n + 1) (fun y => if y = r then some x else f y) (if (f r).isSome then sz else sz + 1) ∧ w.grownBy w' (some b) := by
  obtain ⟨D, ho, hm, hs⟩ := h
  obtain ⟨w', hrun, ho', hg⟩ := ho.update Try.law32 Try.underlying63 (by unfold maxLen; omega) (key32 hr) (R1_pv x)
  refine ⟨w', hrun, ⟨_, ho', ?_, ?_⟩, hg⟩
  · have := hm.put k32_inj hr (Try.law32.key (key32 hr)) (pd x)
    have e : (fun y => if y = r then some (pd x) else (f y).map pd) = fun y => ((if y = r then some x else f y).map pd) := by funext y; split <;> rfl
    rw [e] at this; exact this
  · rw [Maps.size_put (ho.tidy Try.law32)]
    have e := hm.has r hr
    show (if Maps.has D (k32 r) then _ else _) = _
    rw [e, Option.isSome_map, hs]
theorem DownW.len {w : World} {b n sz : Nat} {f : Int → Option Pt} (h : DownW w b n f sz) (ty : TypeId) : (Builtin.len_ #[63] ty #[.map (some b)]).run Try.prog w = .ok (.int .i64 sz) w := by
  obtain ⟨D, ho, _, hs⟩ := h
  rw [ho.len Try.underlying63, hs]
theorem DownW.block {w w' : World} {b n sz : Nat} {f : Int → Option Pt} (h : DownW w b n f sz) (e : w'.heap[b]? = w.heap[b]?) : DownW w' b n f sz := by
  obtain ⟨D, ⟨es, clock, h1, h2⟩, hm⟩ := h
  exact ⟨D, ⟨es, clock, e.trans h1, h2⟩, hm⟩
theorem DownW.lt {w : World} {b n sz : Nat} {f : Int → Option Pt} (h : DownW w b n f sz) : b < w.heap.size := by
  obtain ⟨D, ho, _⟩ := h; exact ho.lt

/-- The map of how many pairs have a second. -/
def SecW (w : World) (b n : Nat) (f : Int → Option Int) : Prop :=
  ∃ D, w.ownsMap Try.prog 21 (plainElem (H := Unit) Try.prog 3) b n D ∧ MapIs D k32 I32 (fun r => (f r).map fun c => .lit (.int .i64 c))
theorem SecW.look {w : World} {b n : Nat} {f : Int → Option Int} (h : SecW w b n f) {r : Int} (hr : I32 r) :
    (Instr.lookup 65 (.map (some b)) (.int .i32 r) false).run Try.prog w = .ok (.int .i64 ((f r).getD 0)) w := by
  obtain ⟨D, ho, hm⟩ := h
  obtain ⟨c, hrun, hat, _⟩ := ho.lookup_int Try.law32 Try.underlying65 Try.underlying3 (zero_i64 w) (key32 hr)
  rw [hm.at' r hr] at hat
  have e : ((f r).map fun c => (DataW.lit (.int .i64 c) : DataW Unit)).getD (.lit (.int .i64 0)) = .lit (.int .i64 ((f r).getD 0)) := by cases f r <;> rfl
  rw [e] at hat
  simp only [DataW.lit.injEq, Lit.int.injEq, true_and] at hat
  rw [hrun, hat]
theorem SecW.upd {w : World} {b n : Nat} {f : Int → Option Int} (h : SecW w b n f) (hn : n < 5000) {r : Int} (hr : I32 r) {c : Int} (hc : I64 c) :
    ∃ w', (Instr.mapUpdate 65 (.map (some b)) (.int .i32 r) (.int .i64 c)).run Try.prog w = .ok () w' ∧ SecW w' b (n + 1) (fun y => if y = r then some c else f y) ∧ w.grownBy w' (some b) := by
  obtain ⟨D, ho, hm⟩ := h
  obtain ⟨w', hrun, ho', hg⟩ := ho.update Try.law32 Try.underlying65 (by unfold maxLen; omega) (key32 hr) (plainElem_int Try.underlying3 hc.wf)
  refine ⟨w', hrun, ⟨_, ho', ?_⟩, hg⟩
  have := hm.put k32_inj hr (Try.law32.key (key32 hr)) (.lit (.int .i64 c))
  have e : (fun y => if y = r then some (DataW.lit (.int .i64 c) : DataW Unit) else (f y).map fun c => .lit (.int .i64 c)) = fun y => ((if y = r then some c else f y).map fun c => .lit (.int .i64 c)) := by funext y; split <;> rfl
  rw [e] at this; exact this
theorem SecW.block {w w' : World} {b n : Nat} {f : Int → Option Int} (h : SecW w b n f) (e : w'.heap[b]? = w.heap[b]?) : SecW w' b n f := by
  obtain ⟨D, ⟨es, clock, h1, h2⟩, hm⟩ := h
  exact ⟨D, ⟨es, clock, e.trans h1, h2⟩, hm⟩
theorem SecW.lt {w : World} {b n : Nat} {f : Int → Option Int} (h : SecW w b n f) : b < w.heap.size := by
  obtain ⟨D, ho, _⟩ := h; exact ho.lt

/-- Two code points as a key. -/
def kk (x : Int × Int) : Lit := .string (keyBytes [.int .i32 x.1, .int .i32 x.2])
def I2 (x : Int × Int) : Prop := I32 x.1 ∧ I32 x.2
theorem Try.laidOut : laidOutB Try.prog = true := by kernel_rfl
theorem Try.rowKk : (109 : TypeId) < Try.prog.types.size := of_decide_eq_true (by kernel_rfl)
theorem Try.wideKk : (match Try.prog.underlying 109 with | some (.array _ _) | some (.struct _) => true | _ => false) = true := by rw [Try.underlying109]
theorem Try.lawKk : Keyed Try.prog 109 := Keyed.of_law (deep_law_laid Try.laidOut (m := 2) (by omega) Try.rowKk (by kernel_rfl) Try.wideKk)
theorem Try.keyTypeKk : Try.prog.keyType 109 = true := by kernel_rfl
theorem Try.cellsKk : Try.prog.cellsOf 109 = 2 := by kernel_rfl
theorem Try.cellsI32 : Try.prog.cellsOf 21 = 1 := by kernel_rfl
theorem keyKk {x : Int × Int} (h : I2 x) : keyOf Try.prog 109 (.agg #[.int .i32 x.1, .int .i32 x.2]) = some (kk x) := by
  obtain ⟨n, hn⟩ : ∃ n, Try.prog.types.size = n + 1 := ⟨Try.prog.types.size - 1, (Nat.sub_add_cancel (Nat.lt_of_le_of_lt (Nat.zero_le _) Try.rowKk)).symm⟩
  have hf : (Value.agg #[.int .i32 x.1, .int .i32 x.2]).formed Try.prog 109 = true := by
    simp [Value.formed, Try.underlying109, Try.cellsKk]
  unfold keyOf
  simp only [Try.underlying109, Try.keyTypeKk, hf, Bool.and_self, if_true, Value.cells]
  rw [hn]
  unfold Program.keyLits
  simp only [Try.underlying109, Try.cellsKk, Try.cellsI32]
  have h1 := h.1.wf
  have h2 := h.2.wf
  simp [List.range, List.range.loop, Program.keyLits, Try.underlying21, h1, h2, kk]
theorem kk_inj : ∀ a b, I2 a → I2 b → kk a = kk b → a = b := fun a b ha hb h => by
  have := Try.lawKk.inj (keyKk ha) (by rw [h]; exact keyKk hb)
  simp at this
  exact Prod.ext this.1 this.2

/-- The map of what two make. -/
def UpW (w : World) (b n : Nat) (f : Int × Int → Option Int) : Prop :=
  ∃ D, w.ownsMap Try.prog 109 (plainElem (H := Unit) Try.prog 21) b n D ∧ MapIs D kk I2 (fun x => (f x).map fun c => .lit (.int .i32 c))
theorem UpW.look {w : World} {b n : Nat} {f : Int × Int → Option Int} (h : UpW w b n f) {x y : Int} (hx : I32 x) (hy : I32 y) :
    (Instr.lookup 64 (.map (some b)) (.agg #[.int .i32 x, .int .i32 y]) true).run Try.prog w = .ok (.tuple #[.int .i32 ((f (x, y)).getD 0), .bool (f (x, y)).isSome]) w := by
  obtain ⟨D, ho, hm⟩ := h
  have hk : I2 (x, y) := ⟨hx, hy⟩
  obtain ⟨v, ps, hrun, hv⟩ := ho.look_ok Try.lawKk Try.underlying64 (zero_i32 w) (plainElem_int Try.underlying21 (by decide)) (keyKk hk)
  obtain ⟨c, rfl, hc, _⟩ := plainElem_int_inv Try.underlying21 hv
  simp only [Prod.mk.injEq] at hc
  have hat := hc.1
  rw [hm.at' _ hk] at hat
  have e : ((f (x, y)).map fun c => (DataW.lit (.int .i32 c) : DataW Unit)).getD (.lit (.int .i32 0)) = .lit (.int .i32 ((f (x, y)).getD 0)) := by cases f (x, y) <;> rfl
  rw [e] at hat
  simp only [DataW.lit.injEq, Lit.int.injEq, true_and] at hat
  rw [hrun, hm.has _ hk, Option.isSome_map, hat]
theorem UpW.upd {w : World} {b n : Nat} {f : Int × Int → Option Int} (h : UpW w b n f) (hn : n < 5000) {x y : Int} (hx : I32 x) (hy : I32 y) {c : Int} (hc : I32 c) :
    ∃ w', (Instr.mapUpdate 64 (.map (some b)) (.agg #[.int .i32 x, .int .i32 y]) (.int .i32 c)).run Try.prog w = .ok () w' ∧ UpW w' b (n + 1) (fun z => if z = (x, y) then some c else f z) ∧ w.grownBy w' (some b) := by
  obtain ⟨D, ho, hm⟩ := h
  have hk : I2 (x, y) := ⟨hx, hy⟩
  obtain ⟨w', hrun, ho', hg⟩ := ho.update Try.lawKk Try.underlying64 (by unfold maxLen; omega) (keyKk hk) (plainElem_int Try.underlying21 hc.wf)
  refine ⟨w', hrun, ⟨_, ho', ?_⟩, hg⟩
  have := hm.put kk_inj hk (Try.lawKk.key (keyKk hk)) (.lit (.int .i32 c))
  have e : (fun z => if z = (x, y) then some (DataW.lit (.int .i32 c) : DataW Unit) else (f z).map fun c => .lit (.int .i32 c)) = fun z => ((if z = (x, y) then some c else f z).map fun c => .lit (.int .i32 c)) := by funext z; split <;> rfl
  rw [e] at this; exact this
theorem UpW.block {w w' : World} {b n : Nat} {f : Int × Int → Option Int} (h : UpW w b n f) (e : w'.heap[b]? = w.heap[b]?) : UpW w' b n f := by
  obtain ⟨D, ⟨es, clock, h1, h2⟩, hm⟩ := h
  exact ⟨D, ⟨es, clock, e.trans h1, h2⟩, hm⟩
theorem UpW.lt {w : World} {b n : Nat} {f : Int × Int → Option Int} (h : UpW w b n f) : b < w.heap.size := by
  obtain ⟨D, ho, _⟩ := h; exact ho.lt
end Go.Proofs.Ytbamhbfncddieaa.Pr
