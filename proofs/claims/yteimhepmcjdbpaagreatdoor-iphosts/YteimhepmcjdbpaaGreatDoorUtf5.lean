import Derived.Test.YteimhepmcjdbpaaGreatDoorUtf4
import Derived.Deep.MidRow
import Derived.Deep.WholeRow
namespace Go.Proofs.YteimhepmcjdbpaaGreatDoor
open Go.RowKit

/-- The reference's table. -/
def rowT (k : Nat) : Int × Int × Int × Int × Nat :=
  if k = 0 then (0, 127, 0, 0, 1) else if k = 1 then (194, 223, 128, 191, 2) else if k = 2 then (224, 224, 160, 191, 3) else if k = 3 then (225, 236, 128, 191, 3)
  else if k = 4 then (237, 237, 128, 159, 3) else if k = 5 then (238, 239, 128, 191, 3) else if k = 6 then (240, 240, 144, 191, 4) else if k = 7 then (241, 243, 128, 191, 4) else (244, 244, 128, 143, 4)
def rowL (k : Nat) : List Value := [.int .i64 (rowT k).1, .int .i64 (rowT k).2.1, .int .i64 (rowT k).2.2.1, .int .i64 (rowT k).2.2.2.1, .int .i64 (rowT k).2.2.2.2]
def rowC (k : Nat) : Value := .agg (rowL k).toArray

/-- All of it, cell by cell. -/
def tabC : Array Value := (rowL 0 ++ rowL 1 ++ rowL 2 ++ rowL 3 ++ rowL 4 ++ rowL 5 ++ rowL 6 ++ rowL 7 ++ rowL 8).toArray
def tabZ : Array Value := Array.replicate 45 (.int .i64 0)

theorem tabZ_zero (w : World) : (zeroValue 137).run Tryz.prog w = .ok (.agg tabZ) w := by kernel_rfl
theorem tabC_at : ∀ k : Fin 9, ∀ j : Fin 5, ∃ n : Int, tabC[5 * k.1 + j.1]? = some (.int .i64 n) ∧ (rowL k.1)[j.1]? = some (.int .i64 n) := by
  intro k j
  match k, j with
  | ⟨0, _⟩, ⟨0, _⟩ | ⟨0, _⟩, ⟨1, _⟩ | ⟨0, _⟩, ⟨2, _⟩ | ⟨0, _⟩, ⟨3, _⟩ | ⟨0, _⟩, ⟨4, _⟩ => exact ⟨_, rfl, rfl⟩
  | ⟨1, _⟩, ⟨0, _⟩ | ⟨1, _⟩, ⟨1, _⟩ | ⟨1, _⟩, ⟨2, _⟩ | ⟨1, _⟩, ⟨3, _⟩ | ⟨1, _⟩, ⟨4, _⟩ => exact ⟨_, rfl, rfl⟩
  | ⟨2, _⟩, ⟨0, _⟩ | ⟨2, _⟩, ⟨1, _⟩ | ⟨2, _⟩, ⟨2, _⟩ | ⟨2, _⟩, ⟨3, _⟩ | ⟨2, _⟩, ⟨4, _⟩ => exact ⟨_, rfl, rfl⟩
  | ⟨3, _⟩, ⟨0, _⟩ | ⟨3, _⟩, ⟨1, _⟩ | ⟨3, _⟩, ⟨2, _⟩ | ⟨3, _⟩, ⟨3, _⟩ | ⟨3, _⟩, ⟨4, _⟩ => exact ⟨_, rfl, rfl⟩
  | ⟨4, _⟩, ⟨0, _⟩ | ⟨4, _⟩, ⟨1, _⟩ | ⟨4, _⟩, ⟨2, _⟩ | ⟨4, _⟩, ⟨3, _⟩ | ⟨4, _⟩, ⟨4, _⟩ => exact ⟨_, rfl, rfl⟩
  | ⟨5, _⟩, ⟨0, _⟩ | ⟨5, _⟩, ⟨1, _⟩ | ⟨5, _⟩, ⟨2, _⟩ | ⟨5, _⟩, ⟨3, _⟩ | ⟨5, _⟩, ⟨4, _⟩ => exact ⟨_, rfl, rfl⟩
  | ⟨6, _⟩, ⟨0, _⟩ | ⟨6, _⟩, ⟨1, _⟩ | ⟨6, _⟩, ⟨2, _⟩ | ⟨6, _⟩, ⟨3, _⟩ | ⟨6, _⟩, ⟨4, _⟩ => exact ⟨_, rfl, rfl⟩
  | ⟨7, _⟩, ⟨0, _⟩ | ⟨7, _⟩, ⟨1, _⟩ | ⟨7, _⟩, ⟨2, _⟩ | ⟨7, _⟩, ⟨3, _⟩ | ⟨7, _⟩, ⟨4, _⟩ => exact ⟨_, rfl, rfl⟩
  | ⟨8, _⟩, ⟨0, _⟩ | ⟨8, _⟩, ⟨1, _⟩ | ⟨8, _⟩, ⟨2, _⟩ | ⟨8, _⟩, ⟨3, _⟩ | ⟨8, _⟩, ⟨4, _⟩ => exact ⟨_, rfl, rfl⟩

theorem tab_range (w : World) (t : TypeId) (k : Nat) (hk : k < 9) : (w.alloc (.cells tabC t)).rangeAt w.heap.size (k * 5) (rowL k) := by
  intro j v hv
  have hj : j < 5 := by have := (List.getElem?_eq_some_iff.1 hv).1; simpa [rowL] using this
  obtain ⟨n, h1, h2⟩ := tabC_at ⟨k, hk⟩ ⟨j, hj⟩
  simp only at h1 h2
  rw [World.cell?_alloc_new, Nat.mul_comm k 5, h1, ← h2, hv]

theorem tab_range2 (w : World) (a : Obj) (t : TypeId) (k : Nat) (hk : k < 9) : ((w.alloc a).alloc (.cells tabC t)).rangeAt (w.heap.size + 1) (k * 5) (rowL k) := by
  have := tab_range (w.alloc a) t k hk
  simpa using this
theorem heap_two (w : World) (a o : Obj) : ((w.alloc a).alloc o).heap[w.heap.size + 1]? = some o := by
  have := heap_alloc_last (w.alloc a) o
  simpa using this
theorem setRow_two (w : World) (a : Obj) (c c' : Array Value) (t : TypeId) : ((w.alloc a).alloc (.cells c t)).setRow (w.heap.size + 1) c' = (w.alloc a).alloc (.cells c' t) := by
  have := World.setRow_alloc_new (w.alloc a) c c' t
  simpa using this

set_option maxRecDepth 100000 in
set_option maxHeartbeats 1000000 in
theorem rrow_any (k : Nat) (hk : k < 9) (w : World) : Calls Tryz.prog 90 #[.int .i64 k] w fun e w' => e = .returned (rowC k) ∧ Below w.heap.size w w' := by
  have hz := tabZ_zero
  go_enter Tryz.func90, Tryz.ntmps90
  go_wp2_with (first | (refine wpList_store_row rfl 137 (.tmp 3) (.tmp 13) rfl (w.heap.size + 1) tabC (by exact rfl) (by kernel_rfl) 137 tabZ (heap_two w _ _) (by kernel_rfl) (by kernel_rfl) (by kernel_rfl) ?_; rw [setRow_two]) | (refine wpList_load_mid rfl 118 (.tmp 15) rfl (w.heap.size + 1) (k * 5) (by exact rfl) (rowL k) _ (tab_range2 w _ _ k hk) Tryz.underlying118 rfl (by kernel_rfl) ?_; unfold rowL))
  refine bodyPost_ret (v := rowC k) ?_ rfl ⟨rfl, ?_⟩
  · simp [results, Tryz.results90, go_sem, rowC, rowL]
  · exact ((Below.refl _ _).alloc (Nat.le_refl _) _).alloc (by simp) _

/-- Does the byte at a place lie where a row asks? -/
def fitX (s : ByteArray) (x0 x1 x2 x3 : Int) (x4 j : Nat) : Prop :=
  j < s.size ∧ j < x4 ∧ (if j = 0 then x0 else if j = 1 then x2 else 128) ≤ (bt s.data.toList j : Int) ∧ (bt s.data.toList j : Int) ≤ (if j = 0 then x1 else if j = 1 then x3 else 191)

theorem byte_conv (x : UInt8) : wrap64 (x.toNat : Int) = x.toNat := by
  have := x.toNat_lt; unfold wrap64; omega

set_option maxRecDepth 100000 in
set_option maxHeartbeats 4000000 in
theorem fits_any (s : ByteArray) (x0 x1 x2 x3 : Int) (x4 n : Nat) (w : World) (hs : s.size ≤ maxLen) (h4 : x4 ≤ 4) (hin : ∀ j, j < n → fitX s x0 x1 x2 x3 x4 j) (hn : ¬ fitX s x0 x1 x2 x3 x4 n) :
    Calls Tryz.prog 91 #[.string s, .agg #[.int .i64 x0, .int .i64 x1, .int .i64 x2, .int .i64 x3, .int .i64 x4]] w fun e w' => e = .returned (.int .i64 n) ∧ Below w.heap.size w w' := by
  unfold maxLen at hs
  have hbel : Below w.heap.size w (w.alloc (.cells #[.int .i64 x0, .int .i64 x1, .int .i64 x2, .int .i64 x3, .int .i64 x4] 118)) := (Below.refl _ _).alloc (Nat.le_refl _) _
  have HIN : Hid (∀ j, j < n → fitX s x0 x1 x2 x3 x4 j) := hin
  have HN : Hid (¬ fitX s x0 x1 x2 x3 x4 n) := hn
  clear hin hn
  go_enter Tryz.func91, Tryz.ntmps91
  go_wp2
  go_loop [5] (fun i => ∃ k : Nat, k ≤ n ∧ i = .int .i64 k) (fun i => n - (intOf i).toNat)
  case atStart => exact ⟨0, Nat.zero_le _, rfl⟩
  case round =>
    obtain ⟨k, hk, rfl⟩ := hrel
    by_cases hkn : k < n
    · have g := HIN.out k hkn
      unfold fitX at g
      obtain ⟨g1, g2, g3, g4⟩ := g
      rw [bt_at s k g1] at g3 g4
      have hb := byte_le s[k]
      clear HIN HN
      have C : k = 0 ∨ k = 1 ∨ 2 ≤ k := by omega
      rcases C with rfl | rfl | hk2
      · simp only [if_true] at g3 g4
        go_wp2
        go_round
        case rel => exact ⟨1, by omega, rfl⟩
        case measure => simp [intOf]; omega
      · simp only [Nat.one_ne_zero, if_false, if_true] at g3 g4
        go_wp2
        go_round
        case rel => exact ⟨2, by omega, rfl⟩
        case measure => simp [intOf]; omega
      · rw [if_neg (by omega), if_neg (by omega)] at g3 g4
        go_wp2
        go_round
        case rel => exact ⟨k + 1, by omega, by go_num⟩
        case measure => simp [intOf]; omega
    · obtain rfl : k = n := by omega
      have hno := HN.out
      clear HIN HN
      unfold fitX at hno
      by_cases c1 : k < s.size
      · by_cases c2 : k < x4
        · rw [bt_at s k c1] at hno
          have hb := byte_le s[k]
          have C : k = 0 ∨ k = 1 ∨ 2 ≤ k := by omega
          rcases C with rfl | rfl | hk2
          · simp only [if_true] at hno
            by_cases c3 : (s[0].toNat : Int) < x0
            · clear hno
              go_wp2
              go_ret
              exact ⟨rfl, hbel⟩
            · have c4 : x1 < (s[0].toNat : Int) := by
                apply Int.lt_of_not_ge; intro h; exact hno ⟨c1, c2, by omega, h⟩
              clear hno
              go_wp2
              go_ret
              exact ⟨rfl, hbel⟩
          · simp only [Nat.one_ne_zero, if_false, if_true] at hno
            by_cases c3 : (s[1].toNat : Int) < x2
            · clear hno
              go_wp2
              go_ret
              exact ⟨rfl, hbel⟩
            · have c4 : x3 < (s[1].toNat : Int) := by
                apply Int.lt_of_not_ge; intro h; exact hno ⟨c1, c2, by omega, h⟩
              clear hno
              go_wp2
              go_ret
              exact ⟨rfl, hbel⟩
          · rw [if_neg (by omega), if_neg (by omega), if_neg (by omega), if_neg (by omega)] at hno
            by_cases c3 : (s[k].toNat : Int) < 128
            · clear hno
              go_wp2
              go_ret
              exact ⟨rfl, hbel⟩
            · have c4 : 191 < (s[k].toNat : Int) := by
                apply Int.lt_of_not_ge; intro h; exact hno ⟨c1, c2, by omega, h⟩
              clear hno
              go_wp2
              go_ret
              exact ⟨rfl, hbel⟩
        · clear hno
          go_wp2
          go_ret
          exact ⟨rfl, hbel⟩
      · clear hno
        go_wp2
        go_ret
        exact ⟨rfl, hbel⟩
end Go.Proofs.YteimhepmcjdbpaaGreatDoor
