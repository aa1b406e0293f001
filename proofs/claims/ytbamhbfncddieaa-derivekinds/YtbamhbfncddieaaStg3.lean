import Derived.Test.YtbamhbfncddieaaStg2
import Derived.Deep.RegionWith
import Derived.Deep.RegionHeld3
import Derived.Deep.RegionLaw
namespace Go.Proofs.Ytbamhbfncddieaa.Uc
open Go.RowKit
set_option maxRecDepth 100000
open Go.Maps (Keyed IsMap)

/-! ### Blocks as keys -/

def u16s (b : List Nat) : List Value := b.map fun n : Nat => .int .u16 (n : Int)
theorem u16s_len (b : List Nat) : (u16s b).length = b.length := by simp [u16s]
theorem u16s_inj : ∀ {a b : List Nat}, u16s a = u16s b → a = b
  | [], [], _ => rfl
  | [], _ :: _, h => by simp [u16s] at h
  | _ :: _, [], h => by simp [u16s] at h
  | x :: a, y :: b, h => by
    simp only [u16s, List.map_cons, List.cons.injEq, Value.int.injEq, true_and] at h
    rw [u16s_inj (a := a) (b := b) h.2]
    have := h.1
    congr 1; omega

theorem wf_u16 (n : Nat) (h : n < 65536) : (Lit.int .u16 (n : Int)).wf = true := by
  have e1 : IntKind.u16.min = 0 := by decide
  have e2 : IntKind.u16.max = 65535 := by decide
  simp only [Lit.wf, e1, e2, Bool.and_eq_true, decide_eq_true_eq]; omega

/-- A block's numbers. -/
def BlkOk (b : List Nat) : Prop := b.length = 256 ∧ ∀ x ∈ b, x < 65536

theorem Try.laidOut : laidOutB Try.prog = true := by kernel_rfl
theorem Try.rowBlk : (126 : TypeId) < Try.prog.types.size := of_decide_eq_true (by kernel_rfl)
theorem Try.wideBlk : (match Try.prog.underlying 126 with | some (.array _ _) | some (.struct _) => true | _ => false) = true := by rw [Try.underlying126]
theorem Try.lawBlk : Keyed Try.prog 126 := Keyed.of_law (deep_law_laid Try.laidOut (m := 2) (by omega) Try.rowBlk (by kernel_rfl) Try.wideBlk)
theorem Try.keyTypeBlk : Try.prog.keyType 126 = true := by kernel_rfl
theorem Try.cellsBlk : Try.prog.cellsOf 126 = 256 := by kernel_rfl
theorem Try.cellsU16 : Try.prog.cellsOf 102 = 1 := by kernel_rfl

theorem mapM_some {α β : Type} (f : α → Option β) (g : α → β) : ∀ (l : List α), (∀ x ∈ l, f x = some (g x)) → l.mapM f = some (l.map g)
  | [], _ => rfl
  | x :: l, h => by
    rw [List.mapM_cons, h x (by simp), mapM_some f g l (fun y hy => h y (by simp [hy]))]
    rfl

/-- What a block reads as among a map's keys. -/
def key (b : List Nat) : Lit := .string (keyBytes (b.map fun n : Nat => Lit.int .u16 (n : Int)))

theorem range_map (b : List Nat) : ((List.range b.length).map fun i => [Lit.int .u16 ((b.getD i 0 : Nat) : Int)]).flatten = b.map fun n : Nat => Lit.int .u16 (n : Int) := by
  have : (List.range b.length).map (fun i => [Lit.int .u16 ((b.getD i 0 : Nat) : Int)]) = b.map fun n : Nat => [Lit.int .u16 (n : Int)] := by
    apply List.ext_getElem?
    intro i
    by_cases h : i < b.length
    · simp [h]
    · simp [h]
  rw [this]
  clear this
  induction b with
  | nil => rfl
  | cons x b ih => simp [ih]

theorem key_of {b : List Nat} (h : BlkOk b) : keyOf Try.prog 126 (.agg (u16s b).toArray) = some (key b) := by
  obtain ⟨n, hn⟩ : ∃ n, Try.prog.types.size = n + 1 := ⟨Try.prog.types.size - 1, (Nat.sub_add_cancel (Nat.lt_of_le_of_lt (Nat.zero_le _) Try.rowBlk)).symm⟩
  have hf : (Value.agg (u16s b).toArray).formed Try.prog 126 = true := by
    simp [Value.formed, Try.underlying126, Try.cellsBlk, u16s, h.1]
  unfold keyOf
  simp only [Try.underlying126, Try.keyTypeBlk, hf, Bool.and_self, if_true, Value.cells]
  rw [hn]
  unfold Program.keyLits
  simp only [Try.underlying126, Try.cellsBlk, Try.cellsU16, u16s_len, h.1, if_true]
  rw [mapM_some _ (fun i => [Lit.int .u16 ((b.getD i 0 : Nat) : Int)])]
  · have := range_map b
    rw [h.1] at this
    simp only [Option.map_some, this]; rfl
  · intro i hi
    have hi' : i < b.length := by rw [h.1]; simpa using hi
    have e : ((u16s b).drop (i * 1)).take 1 = [.int .u16 b[i]] := by
      rw [Nat.mul_one, List.drop_eq_getElem_cons (by rw [u16s_len]; exact hi')]
      simp [u16s]
    rw [e]
    unfold Program.keyLits
    have hb := h.2 b[i] (List.getElem_mem hi')
    simp only [Try.underlying102]
    have hw : (Lit.int .u16 (b[i] : Int)).wf = true := wf_u16 _ hb
    simp [hw, hi']

theorem key_inj {a b : List Nat} (ha : BlkOk a) (hb : BlkOk b) (h : key a = key b) : a = b := by
  have := Try.lawBlk.inj (key_of ha) (by rw [h]; exact key_of hb)
  simp at this
  exact u16s_inj this

/-- The map tells each block's place among these. -/
structure MapOk (D : DataW Unit) (bl : List (List Nat)) : Prop where
  isMap : IsMap D
  no : ∀ b, BlkOk b → b ∉ bl → Maps.has D (key b) = false
  yes : ∀ (i : Nat) (b : List Nat), bl[i]? = some b → Maps.has D (key b) = true ∧ D.atKey (key b) (.lit (.int .u16 0)) = .lit (.int .u16 i)

theorem MapOk.nil : MapOk (.map []) [] := ⟨Maps.isMap_empty, fun _ _ _ => rfl, fun i b h => by simp at h⟩

theorem MapOk.snoc {D : DataW Unit} {bl : List (List Nat)} (h : MapOk D bl) (ok : ∀ b ∈ bl, BlkOk b) {b : List Nat} (hb : BlkOk b) (hn : b ∉ bl) : MapOk (D.put (key b) (.lit (.int .u16 bl.length))) (bl ++ [b]) := by
  have hk := Try.lawBlk.key (key_of hb)
  refine ⟨h.isMap.put _ _, fun c hc hcn => ?_, fun i c hi => ?_⟩
  · have h1 : c ∉ bl := fun e => hcn (by simp [e])
    have h2 : c ≠ b := fun e => hcn (by simp [e])
    rw [Maps.has_put_other (fun e => h2 (key_inj hc hb e))]
    exact h.no c hc h1
  · by_cases e : i < bl.length
    · rw [List.getElem?_append_left e] at hi
      have hm : c ∈ bl := List.mem_of_getElem? hi
      have h2 : key c ≠ key b := fun e => hn (by rw [← key_inj (ok c hm) hb e]; exact hm)
      rw [Maps.has_put_other h2, Maps.atKey_put_other h2]
      exact h.yes i c hi
    · rw [List.getElem?_append_right (by omega)] at hi
      have e2 : i = bl.length := by
        have := (List.getElem?_eq_some_iff.1 hi).1
        simp at this; omega
      subst e2
      simp at hi; subst hi
      exact ⟨Maps.has_put_same h.isMap hk _, Maps.atKey_put_same h.isMap hk _ _⟩

/-! ### The blocks of some rows -/

/-- Block i's numbers. -/
def blkN (num : Int → Nat) (i : Nat) : List Nat := (List.range 256).map fun j : Nat => num (256 * (i : Int) + (j : Int))

theorem blkN_ok (num : Int → Nat) (i : Nat) (h : ∀ r, num r < 65536) : BlkOk (blkN num i) := by
  refine ⟨by simp [blkN], fun x hx => ?_⟩
  simp only [blkN, List.mem_map] at hx
  obtain ⟨j, _, rfl⟩ := hx
  exact h _

theorem blk_cells {c : Array Value} {num : Int → Nat} {i : Nat} (hs : c.size = 256) (hc : ∀ j, j < 256 → c[j]? = some (blkF num (256 * (i : Int)) j)) : c = (u16s (blkN num i)).toArray := by
  apply Array.ext_getElem?
  intro j
  by_cases hj : j < 256
  · rw [hc j hj]; simp [u16s, blkN, blkF, hj]
  · rw [Array.getElem?_eq_none (by omega), Array.getElem?_eq_none (by simp [u16s, blkN]; omega)]

/-- Places and unlike blocks, as far as they are laid. -/
structure LaidTo (num : Int → Nat) (k : Nat) (bl : List (List Nat)) (pl : List Nat) : Prop where
  len : pl.length = k
  at' : ∀ i p, pl[i]? = some p → bl[p]? = some (blkN num i)
  nodup : bl.Nodup
  used : ∀ b ∈ bl, ∃ i, i < k ∧ b = blkN num i
  most : bl.length ≤ k

theorem LaidTo.nil (num : Int → Nat) : LaidTo num 0 [] [] := ⟨rfl, fun i p h => by simp at h, List.nodup_nil, fun b h => by simp at h, Nat.le_refl _⟩

theorem LaidTo.old {num : Int → Nat} {k : Nat} {bl : List (List Nat)} {pl : List Nat} (h : LaidTo num k bl pl) {p : Nat} (hp : bl[p]? = some (blkN num k)) : LaidTo num (k + 1) bl (pl ++ [p]) := by
  refine ⟨by simp [h.len], fun i q hq => ?_, h.nodup, fun b hb => ?_, by have := h.most; omega⟩
  · by_cases e : i < pl.length
    · rw [List.getElem?_append_left e] at hq; exact h.at' i q hq
    · have : i = k := by have := (List.getElem?_eq_some_iff.1 hq).1; simp [h.len] at this e; omega
      subst this
      rw [List.getElem?_append_right (by omega), h.len] at hq
      simp at hq; subst hq; exact hp
  · obtain ⟨i, h1, h2⟩ := h.used b hb; exact ⟨i, by omega, h2⟩

theorem LaidTo.new {num : Int → Nat} {k : Nat} {bl : List (List Nat)} {pl : List Nat} (h : LaidTo num k bl pl) (hn : blkN num k ∉ bl) : LaidTo num (k + 1) (bl ++ [blkN num k]) (pl ++ [bl.length]) := by
  refine ⟨by simp [h.len], fun i q hq => ?_, ?_, fun b hb => ?_, by have := h.most; simp; omega⟩
  · by_cases e : i < pl.length
    · rw [List.getElem?_append_left e] at hq
      have := h.at' i q hq
      rw [List.getElem?_append_left (List.getElem?_eq_some_iff.1 this).1]; exact this
    · have : i = k := by have := (List.getElem?_eq_some_iff.1 hq).1; simp [h.len] at this e; omega
      subst this
      rw [List.getElem?_append_right (by omega), h.len] at hq
      simp at hq; subst hq; simp
  · rw [List.nodup_append]
    refine ⟨h.nodup, by simp, fun a ha b hb e => ?_⟩
    simp at hb; subst hb; subst e; exact hn ha
  · simp at hb
    rcases hb with hb | rfl
    · obtain ⟨i, h1, h2⟩ := h.used b hb; exact ⟨i, by omega, h2⟩
    · exact ⟨k, by omega, rfl⟩

end Go.Proofs.Ytbamhbfncddieaa.Uc
