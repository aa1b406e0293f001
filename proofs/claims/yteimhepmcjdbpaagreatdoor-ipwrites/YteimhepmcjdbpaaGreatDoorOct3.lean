import Derived.Test.YteimhepmcjdbpaaGreatDoorOct2
import Derived.Laws.IdiomStrings
namespace Go.Proofs.YteimhepmcjdbpaaGreatDoor
open Go.RowKit

/-- A block's first cells are these bytes, and may be written. -/
def Lies (w : World) (g : Nat) (l : List UInt8) : Prop := ∀ j (h : j < l.length), w.cell? ⟨g, j, none⟩ = some (.int .u8 (l[j].toNat : Int)) ∧ w.frozen? ⟨g, j, none⟩ = false

theorem Lies.set {w : World} {g : Nat} {l : List UInt8} (h : Lies w g l) (k : Nat) (x : UInt8) (_hk : k < l.length) : Lies (w.setCell ⟨g, k, none⟩ (.int .u8 (x.toNat : Int))) g (l.set k x) := by
  intro j hj
  rw [List.length_set] at hj
  refine ⟨?_, by rw [World.frozen?_setCell]; exact (h j hj).2⟩
  by_cases e : k = j
  · subst e
    rw [World.cell?_setCell_same _ _ _ (h k hj).1]; simp
  · rw [World.cell?_setCell_other _ _ _ _ (by simp), (h j hj).1]
    simp [e]

theorem Lies.drew {w : World} {g : Nat} {l : List UInt8} (h : Lies w g l) : Lies w.drew g l := h

theorem Lies.conv (w : World) (s : ByteArray) (cap : Nat) (e : TypeId) : Lies (w.alloc (.cells (bytesRow s cap) e ((bytesRow s cap).size, (bytesRow s cap).size + 1))) w.heap.size s.data.toList := by
  intro j hj
  have hj' : j < s.size := by simpa using hj
  constructor
  · rw [World.cell?_alloc_mark]
    have hj3 : j < s.data.size := hj'
    unfold bytesRow
    rw [Array.getElem?_append_left (by rw [Array.size_map]; exact hj3), Array.getElem?_map, Array.getElem?_eq_getElem hj3]
    rfl
  · rw [World.frozen?_alloc_mark]
    have : s.size ≤ (bytesRow s cap).size := by
      unfold bytesRow; rw [Array.size_append, Array.size_map]; exact Nat.le_add_right _ _
    simp; omega


def lowU (c : UInt8) : UInt8 := if upB c.toNat then c + 32 else c
def highU (c : UInt8) : UInt8 := if lowB c.toNat then c - 32 else c
def lowS (s : ByteArray) : ByteArray := ⟨(s.data.toList.map lowU).toArray⟩
def highS (s : ByteArray) : ByteArray := ⟨(s.data.toList.map highU).toArray⟩

/-- The first k bytes done, the others as they were. -/
def mixed (f : UInt8 → UInt8) (k : Nat) (l : List UInt8) : List UInt8 := (l.take k).map f ++ l.drop k
theorem mixed_len (f : UInt8 → UInt8) (k : Nat) (l : List UInt8) : (mixed f k l).length = l.length := by simp [mixed]; omega
theorem mixed_at (f : UInt8 → UInt8) (k : Nat) (l : List UInt8) (h : k < l.length) : (mixed f k l)[k]'(by rw [mixed_len]; exact h) = l[k] := by
  unfold mixed
  rw [List.getElem_append_right (by simp; omega)]
  simp [Nat.min_eq_left (Nat.le_of_lt h)]
theorem mixed_succ (f : UInt8 → UInt8) (k : Nat) (l : List UInt8) (h : k < l.length) : (mixed f k l).set k (f l[k]) = mixed f (k + 1) l := by
  unfold mixed
  rw [List.take_succ_eq_append_getElem h, List.map_append, List.set_append_right _ _ (by simp; omega), List.append_assoc]
  congr 1
  have e : l.drop k = l[k] :: l.drop (k + 1) := List.drop_eq_getElem_cons h
  have e2 : k - ((l.take k).map f).length = 0 := by simp; omega
  rw [e2, e]
  rfl
theorem set_self {α : Type} (l : List α) (k : Nat) (h : k < l.length) : l.set k l[k] = l := List.set_getElem_self h
theorem mixed_stay (f : UInt8 → UInt8) (k : Nat) (l : List UInt8) (h : k < l.length) (hf : f l[k] = l[k]) : mixed f k l = mixed f (k + 1) l := by
  rw [← mixed_succ f k l h, hf]
  have := set_self (mixed f k l) k (by rw [mixed_len]; exact h)
  rw [mixed_at f k l h] at this
  exact this.symm
theorem mixed_zero (f : UInt8 → UInt8) (l : List UInt8) : mixed f 0 l = l := by simp [mixed]
theorem mixed_all (f : UInt8 → UInt8) (l : List UInt8) : mixed f l.length l = l.map f := by simp [mixed]

theorem lowU_up (c : UInt8) (h : upB c.toNat = true) : (((lowU c).toNat : Nat) : Int) = c.toNat + 32 := by
  unfold lowU; rw [if_pos h]
  unfold upB at h
  have h' := of_decide_eq_true h
  have e : (c + 32).toNat = (c.toNat + 32) % 256 := by rw [UInt8.toNat_add]; rfl
  rw [e]; omega
theorem lowU_no (c : UInt8) (h : upB c.toNat = false) : lowU c = c := by unfold lowU; rw [h]; rfl
theorem highU_low (c : UInt8) (h : lowB c.toNat = true) : (((highU c).toNat : Nat) : Int) = c.toNat - 32 := by
  unfold highU; rw [if_pos h]
  unfold lowB at h
  have h' := of_decide_eq_true h
  have e : (c - 32).toNat = (256 - 32 + c.toNat) % 256 := by rw [UInt8.toNat_sub]; rfl
  rw [e]; omega
theorem highU_no (c : UInt8) (h : lowB c.toNat = false) : highU c = c := by unfold highU; rw [h]; rfl

set_option maxHeartbeats 1000000 in
theorem lower_any (s : ByteArray) (w : World) (hs : s.size ≤ maxLen) :
    Calls Tryz.prog 46 #[.string s] w fun e w' => e = .returned (.string (lowS s)) ∧ Below w.heap.size w w' := by
  unfold maxLen at hs
  have hconv := run_bytes_of_string (P := Tryz.prog) w 9 64 5 s Tryz.underlying9 Tryz.underlying64 Tryz.underlying5
  have hL := Lies.conv w s (grownCap w s.size 0 5) 5
  have hB := Below.conv w (.cells (bytesRow s (grownCap w s.size 0 5)) 5 ((bytesRow s (grownCap w s.size 0 5)).size, (bytesRow s (grownCap w s.size 0 5)).size + 1))
  generalize grownCap w s.size 0 5 = cap at *
  generalize bytesRow s cap = C at *
  have HL : Hid (Lies _ _ _) := hL
  clear hL
  go_enter Tryz.func46, Tryz.ntmps46
  go_wp2
  go_loopw [10] (fun i wr => ∃ k : Nat, k ≤ s.size ∧ i = .int .i64 k ∧ Below w.heap.size w wr ∧ Lies wr w.heap.size (mixed lowU k s.data.toList)) (fun i _ => s.size - (intOf i).toNat)
  case atStart => exact ⟨0, Nat.zero_le _, rfl, hB, by rw [mixed_zero]; exact HL.out⟩
  case round =>
    obtain ⟨k, hk, rfl, hb, hl⟩ := hrel
    clear hconv hB HL
    by_cases hlt : k < s.size
    · have hlt' : k < s.data.toList.length := by simpa using hlt
      obtain ⟨hc, hf⟩ := hl k (by rw [mixed_len]; exact hlt')
      rw [mixed_at lowU k _ hlt'] at hc
      have hm := mixed_succ lowU k _ hlt'
      have hy := mixed_stay lowU k _ hlt'
      have HM : Hid ((mixed lowU k s.data.toList).set k (lowU s.data.toList[k]) = mixed lowU (k + 1) s.data.toList) := hm
      have HY : Hid (lowU s.data.toList[k] = s.data.toList[k] → mixed lowU k s.data.toList = mixed lowU (k + 1) s.data.toList) := hy
      clear hm hy
      generalize s.data.toList[k] = c at *
      by_cases hu : upB (c.toNat : Int) = true
      · obtain ⟨g1, g2⟩ := of_decide_eq_true hu
        have hset := hl.set k (lowU c) (by rw [mixed_len]; exact hlt')
        rw [HM.out, lowU_up c hu] at hset
        have HS : Hid (Lies _ _ _) := hset
        clear hset hl
        go_wp2_with (go_at_call 61; refine (up_any _ _).mono ?_; rintro e w' ⟨rfl, rfl⟩)
        go_roundw
        case rel => exact ⟨k + 1, by omega, by go_num, hb.setCell (Nat.le_refl _) _, HS.out⟩
        case measure => simp [intOf]; omega
      · have hu' : upB (c.toNat : Int) = false := by simpa using hu
        have hy := HY.out (lowU_no c hu')
        rw [hy] at hl
        clear hy HY HM hu
        go_wp2_with (go_at_call 61; refine (up_any _ _).mono ?_; rintro e w' ⟨rfl, rfl⟩)
        go_roundw
        case rel => exact ⟨k + 1, by omega, by go_num, hb, hl⟩
        case measure => simp [intOf]; omega
    · have e1 : mixed lowU k s.data.toList = s.data.toList.map lowU := by
        have : k = s.data.toList.length := by simp; omega
        rw [this, mixed_all]
      rw [e1] at hl
      have hlen : (s.data.toList.map lowU).length = s.size := by simp
      have hback := run_convert_bytes_back (P := Tryz.prog) wr 64 9 5 ⟨w.heap.size, 0, none⟩ cap (s.data.toList.map lowU) Tryz.underlying64 Tryz.underlying5 Tryz.underlying9 (fun j hj => by
        have h := (hl j hj).1
        unfold Addr.add
        by_cases hj0 : j = 0
        · subst hj0; exact h
        · rw [if_neg hj0]; simpa using h)
      rw [hlen] at hback
      have hr : Hid ((⟨(s.data.toList.map lowU).toArray⟩ : ByteArray) = lowS s) := rfl
      generalize (⟨(s.data.toList.map lowU).toArray⟩ : ByteArray) = r at *
      clear e1 hlen hl
      go_wp2
      go_ret
      exact ⟨ret_string hr.out, hb⟩

end Go.Proofs.YteimhepmcjdbpaaGreatDoor
