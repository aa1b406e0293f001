import Derived.Test.YteimhepmcjdbpaaGreatDoorOct4
namespace Go.Proofs.YteimhepmcjdbpaaGreatDoor
open Go.RowKit

theorem same_any (a b : ByteArray) (w : World) (ha : a.size ≤ maxLen) (hb : b.size ≤ maxLen) :
    Calls Tryz.prog 25 #[.string a, .string b] w fun e w' => e = .returned (.bool (eqS (lowS a) (lowS b))) ∧ Below w.heap.size w w' := by
  by_cases h : ((a.size : Int) == (b.size : Int)) = true
  · go_enter Tryz.func25, Tryz.ntmps25
    go_wp2_with fail
    refine (lower_any _ _ ha).mono ?_
    rintro e w1 ⟨rfl, hb1⟩
    go_wp2_with fail
    refine (lower_any _ _ hb).mono ?_
    rintro e w2 ⟨rfl, hb2⟩
    go_wp2_with fail
    go_ret
    exact ⟨rfl, hb1.trans (hb2.mono hb1.size)⟩
  · have h' : ((a.size : Int) == (b.size : Int)) = false := by simpa using h
    have H : Hid (eqS (lowS a) (lowS b) = false) := by
      show (_ == _) = _
      rw [beq_eq_false_iff_ne]
      intro e
      have e2 : (lowS a).toList.length = (lowS b).toList.length := by rw [e]
      have s1 : ∀ s : ByteArray, (lowS s).toList.length = s.size := fun s => by rw [ByteArray.toList_eq]; simp [lowS]
      rw [s1, s1] at e2
      simp [e2] at h
    clear h
    go_enter Tryz.func25, Tryz.ntmps25
    go_wp2_with fail
    go_ret
    exact ⟨ret_bool H.out.symm, Below.refl _ _⟩

/-- The first place below k at which p is true; -1: there is none. -/
def fI (p : Nat → Bool) (k : Nat) : Int := match (List.range k).find? p with | some i => i | none => -1

theorem fI_none (p : Nat → Bool) (k : Nat) (h : ∀ j, j < k → p j = false) : fI p k = -1 := by
  unfold fI
  have : (List.range k).find? p = none := by
    rw [List.find?_eq_none]; intro x hx; simp at hx; simp [h x hx]
  rw [this]

theorem fI_hit (p : Nat → Bool) (n k : Nat) (hk : k < n) (hp : p k = true) (h : ∀ j, j < k → p j = false) : fI p n = k := by
  unfold fI
  have : (List.range n).find? p = some k := by
    rw [List.find?_range_eq_some]
    exact ⟨hp, by simpa using hk, fun j hj => by simp [h j hj]⟩
  rw [this]

theorem fI_nn (p : Nat → Bool) (k : Nat) : -1 ≤ fI p k := by unfold fI; split <;> omega
theorem fI_lt (p : Nat → Bool) (k : Nat) : fI p k < k := by
  unfold fI
  split
  · rename_i i h
    have := List.mem_of_find?_eq_some h
    simp at this; omega
  · omega

theorem fI_succ (p : Nat → Bool) (k : Nat) : fI p (k + 1) = if fI p k < 0 then (if p k then (k : Int) else -1) else fI p k := by
  unfold fI
  rw [List.range_succ, List.find?_append]
  cases h : (List.range k).find? p with
  | some i => simp; omega
  | none =>
    simp only [Option.none_or, List.find?_cons, List.find?_nil]
    cases p k <;> simp

/-- Does the byte at a place, not ahead of 'from', stand in the set? -/
def hitB (s : ByteArray) (set : List UInt8) (frm : Int) (j : Nat) : Bool := decide (frm ≤ j) && inB ((s.data.toList.getD j 0).toNat : Int) set

theorem hit_at (s : ByteArray) (set : List UInt8) (frm : Int) (j : Nat) (h : j < s.size) : hitB s set frm j = (decide (frm ≤ j) && inB (s[j].toNat : Int) set) := by
  unfold hitB
  have : s.data.toList.getD j 0 = s[j] := by
    rw [List.getD_eq_getElem?_getD, List.getElem?_eq_getElem (by simpa using h)]; rfl
  rw [this]

theorem hit_early (s : ByteArray) (set : List UInt8) (frm : Int) (j : Nat) (h : (j : Int) < frm) : hitB s set frm j = false := by
  have hn : ¬ frm ≤ (j : Int) := by omega
  simp [hitB, hn]

def Tab (w : World) (g : Nat) (set : List UInt8) : Prop := ∀ j, j < 256 → w.cell? ⟨g, j, none⟩ = some (.bool (inB (j : Int) set)) ∧ w.frozen? ⟨g, j, none⟩ = false

theorem Tab.set {w : World} {g : Nat} {l : List UInt8} (h : Tab w g l) (x : UInt8) : Tab (w.setCell ⟨g, x.toNat, none⟩ (.bool true)) g (l ++ [x]) := by
  intro j hj
  refine ⟨?_, by rw [World.frozen?_setCell]; exact (h j hj).2⟩
  rw [inB_snoc]
  by_cases e : x.toNat = j
  · subst e
    rw [World.cell?_setCell_same _ _ _ (h _ hj).1]; simp
  · have e2 : ((x.toNat : Int) == (j : Int)) = false := by rw [beq_eq_false_iff_ne]; omega
    rw [World.cell?_setCell_other _ _ _ _ (by simp), (h j hj).1, e2, Bool.or_false]

def noTab : Array Value := Array.replicate 256 (.bool false)
theorem Tab.new (w : World) (t : TypeId) : Tab (w.alloc (.cells noTab t)) w.heap.size [] := by
  intro j hj
  refine ⟨?_, by simp⟩
  rw [World.cell?_alloc_new]
  unfold noTab
  rw [Array.getElem?_replicate, if_pos hj]
  rfl

theorem case_all : ((List.range 256).all fun n => (lowU (highU (UInt8.ofNat n)) == lowU (UInt8.ofNat n)) && (highU (lowU (UInt8.ofNat n)) == highU (UInt8.ofNat n))) = true := by decide +kernel
theorem case_byte (c : UInt8) : lowU (highU c) = lowU c ∧ highU (lowU c) = highU c := by
  have := List.all_eq_true.1 case_all c.toNat (by have := c.toNat_lt; simp; omega)
  simpa [UInt8.ofNat_toNat] using this
theorem low_high (s : ByteArray) : lowS (highS s) = lowS s := by
  unfold lowS highS
  simp only [List.map_map]
  congr 2
  exact List.map_congr_left fun x _ => (case_byte x).1
theorem high_low (s : ByteArray) : highS (lowS s) = highS s := by
  unfold lowS highS
  simp only [List.map_map]
  congr 2
  exact List.map_congr_left fun x _ => (case_byte x).2
theorem low_size (s : ByteArray) : (lowS s).size = s.size := by
  show (s.data.toList.map lowU).toArray.size = s.data.size; simp
theorem high_size (s : ByteArray) : (highS s).size = s.size := by
  show (s.data.toList.map highU).toArray.size = s.data.size; simp
end Go.Proofs.YteimhepmcjdbpaaGreatDoor
