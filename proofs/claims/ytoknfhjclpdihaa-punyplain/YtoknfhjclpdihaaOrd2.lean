import Derived.Test.YtoknfhjclpdihaaOrd1
import Derived.Below
import Derived.WalkKit
import Derived.OwnWalk
import Derived.RegionTactic
import Derived.BigRegion
import Derived.BigQuiet
import Derived.Deep.QuietTactic
import Derived.Deep.RegionHeld3
import Derived.Deep.LoopGhost
import Derived.Laws.Pointers
namespace Go.Proofs.Ytoknfhjclpdihaa
namespace Od
open Go.RowKit

theorem hid {p : Prop} (h : p) : Hid p := h
def i32s (l : List Int) : List Value := l.map (.int .i64 ·)
theorem i32s_len (l : List Int) : (i32s l).length = l.length := by simp [i32s]

/-- A block that begins with these runes. -/
def Blk (w : World) (b : Nat) (R : List Int) (T : List Value) : Prop := w.heap[b]? = some (.cells (i32s R ++ T).toArray 3)
theorem Blk.lt {w : World} {b : Nat} {R : List Int} {T : List Value} (h : Blk w b R T) : b < w.heap.size := (Array.getElem?_eq_some_iff.1 h).1
theorem Blk.cell {w : World} {b : Nat} {R : List Int} {T : List Value} (h : Blk w b R T) (k : Nat) (v : Int) (hk : R[k]? = some v) : w.cell? ⟨b, k, none⟩ = some (.int .i64 v) := by
  have h' : w.heap[b]? = _ := h
  have hlt : k < R.length := (List.getElem?_eq_some_iff.1 hk).1
  simp only [World.cell?, h', List.getElem?_toArray]
  rw [List.getElem?_append_left (by rw [i32s_len]; exact hlt)]
  simp [i32s, hk]
theorem Blk.frozen {w : World} {b : Nat} {R : List Int} {T : List Value} (h : Blk w b R T) (k : Nat) : w.frozen? ⟨b, k, none⟩ = false := by
  have h' : w.heap[b]? = _ := h
  simp [World.frozen?, h']
theorem Blk.drew {w : World} {b : Nat} {R : List Int} {T : List Value} (h : Blk w b R T) : Blk w.drew b R T := h
theorem Blk.set {w : World} {b : Nat} {R : List Int} {T : List Value} (h : Blk w b R T) (k : Nat) (v : Int) (hk : k < R.length) : Blk (w.setCell ⟨b, k, none⟩ (.int .i64 v)) b (R.set k v) T := by
  have h' : w.heap[b]? = _ := h
  have e : (i32s R ++ T).set k (.int .i64 v) = i32s (R.set k v) ++ T := by
    rw [List.set_append_left _ _ (by rw [i32s_len]; exact hk)]
    simp [i32s, List.map_set]
  simp [Blk, World.setCell, Array.getElem?_modify, h', e]

/-- A world in which, of what lay there, one block alone may have turned. -/
structure Alt (b : Nat) (w w' : World) : Prop where
  os : w'.os = w.os
  tape : w'.tape = w.tape
  output : w'.output = w.output
  size : w.heap.size ≤ w'.heap.size
  block : ∀ k, k < w.heap.size → k ≠ b → w'.heap[k]? = w.heap[k]?
theorem Alt.refl (b : Nat) (w : World) : Alt b w w := ⟨rfl, rfl, rfl, Nat.le_refl _, fun _ _ _ => rfl⟩
theorem Alt.trans {b : Nat} {u v w : World} (h : Alt b u v) (k : Alt b v w) : Alt b u w :=
  ⟨k.os.trans h.os, k.tape.trans h.tape, k.output.trans h.output, Nat.le_trans h.size k.size, fun i hi hb => (k.block i (Nat.lt_of_lt_of_le hi h.size) hb).trans (h.block i hi hb)⟩
theorem Alt.of {b : Nat} {w w' : World} (h : Below w.heap.size w w') : Alt b w w' := ⟨h.os, h.tape, h.output, h.size, fun k hk _ => h.block k hk⟩
theorem Alt.drew {b : Nat} {u v : World} (h : Alt b u v) : Alt b u v.drew := ⟨h.os, h.tape, h.output, h.size, h.block⟩
theorem Alt.set {b : Nat} {u v : World} (h : Alt b u v) (k : Nat) (x : Value) : Alt b u (v.setCell ⟨b, k, none⟩ x) :=
  h.trans ⟨rfl, rfl, rfl, by simp [World.setCell], fun i _ hi => Below.heap_setCell _ _ _ _ hi⟩
theorem Alt.below {B b : Nat} {w w' : World} (h : Alt b w w') (hB : B ≤ w.heap.size) (hb : B ≤ b) : Below B w w' := ⟨h.os, h.tape, h.output, h.size, fun k hk => h.block k (by omega) (by omega)⟩
theorem Blk.step {w w' : World} {b : Nat} {R : List Int} {T : List Value} (h : Blk w b R T) (hb : Below w.heap.size w w') : Blk w' b R T := (hb.block b h.lt).trans h

/-- Two change places. -/
theorem set_swap (U V Z : List Int) (x y : Int) (p q : Nat) (hp : p = U.length) (hq : q = U.length + 1 + V.length) : ((U ++ x :: (V ++ y :: Z)).set p y).set q x = U ++ y :: (V ++ x :: Z) := by
  subst hp hq
  rw [List.set_append_right _ _ (Nat.le_refl _), Nat.sub_self, List.set_cons_zero, List.set_append_right _ _ (by omega)]
  rw [show U.length + 1 + V.length - U.length = V.length + 1 by omega, List.set_cons_succ, List.set_append_right _ _ (Nat.le_refl _), Nat.sub_self, List.set_cons_zero]
theorem get_fst (U V Z : List Int) (x y : Int) (p : Nat) (hp : p = U.length) : (U ++ x :: (V ++ y :: Z))[p]? = some x := by subst hp; simp
theorem get_snd (U V Z : List Int) (x y : Int) (q : Nat) (hq : q = U.length + 1 + V.length) : (U ++ x :: (V ++ y :: Z))[q]? = some y := by
  subst hq
  rw [List.getElem?_append_right (by omega), show U.length + 1 + V.length - U.length = V.length + 1 by omega, List.getElem?_cons_succ, List.getElem?_append_right (Nat.le_refl _), Nat.sub_self]
  rfl

theorem swap_world {w : World} {b : Nat} {U V Z : List Int} {x y : Int} {T : List Value} {p q : Nat} (h : Blk w b (U ++ x :: (V ++ y :: Z)) T) (hp : p = U.length) (hq : q = U.length + 1 + V.length) :
    Blk ((w.setCell ⟨b, p, none⟩ (.int .i64 y)).setCell ⟨b, q, none⟩ (.int .i64 x)).drew b (U ++ y :: (V ++ x :: Z)) T ∧ Alt b w ((w.setCell ⟨b, p, none⟩ (.int .i64 y)).setCell ⟨b, q, none⟩ (.int .i64 x)).drew := by
  refine ⟨?_, (((Alt.refl b w).set _ _).set _ _).drew⟩
  have h1 := (h.set p y (by simp; omega)).set q x (by simp; omega)
  rw [set_swap U V Z x y p q hp hq] at h1
  exact h1.drew
/-- The like, the second one written first. -/
theorem swap_world' {w : World} {b : Nat} {U V Z : List Int} {x y : Int} {T : List Value} {p q : Nat} (h : Blk w b (U ++ x :: (V ++ y :: Z)) T) (hp : p = U.length) (hq : q = U.length + 1 + V.length) :
    Blk ((w.setCell ⟨b, q, none⟩ (.int .i64 x)).setCell ⟨b, p, none⟩ (.int .i64 y)).drew b (U ++ y :: (V ++ x :: Z)) T ∧ Alt b w ((w.setCell ⟨b, q, none⟩ (.int .i64 x)).setCell ⟨b, p, none⟩ (.int .i64 y)).drew := by
  refine ⟨?_, (((Alt.refl b w).set _ _).set _ _).drew⟩
  have h1 := (h.set q x (by simp; omega)).set p y (by simp; omega)
  rw [List.set_comm _ _ (by omega), set_swap U V Z x y p q hp hq] at h1
  exact h1.drew

set_option maxHeartbeats 2000000 in
theorem swr_any (w : World) (b off a c n cap len : Nat) (A X M Y B : List Int) (T : List Value) (cmp : Value) (h : Blk w b (A ++ X ++ M ++ Y ++ B) T) (hA : A.length = off + a) (hX : X.length = n) (hY : Y.length = n) (hM : a + n + M.length = c) (hl : c + n ≤ len) (hlen : len < 1000000000000) :
    Calls Try.prog 51 #[.slice (some ⟨b, off, none⟩) len cap, .int .i64 a, .int .i64 c, .int .i64 n, cmp] w fun e w' => e = .returned (.tuple #[]) ∧ Blk w' b (A ++ Y ++ M ++ X ++ B) T ∧ Alt b w w' := by
  have HX := hid hX
  have HY := hid hY
  have HM := hid hM
  have HA := hid hA
  have hcn : a + n ≤ c := by omega
  clear hX hY hM hA
  go_enter Try.func51, Try.ntmps51
  go_wp2_with fail
  go_loopg [10] n (fun g vi wr => ∃ (i : Nat) (X1 X2 Y1 Y2 : List Int), vi = .int .i64 i ∧ i ≤ n ∧ g = n - i ∧ Hid (X = X1 ++ X2 ∧ Y = Y1 ++ Y2 ∧ X1.length = i ∧ Y1.length = i ∧ Blk wr b (A ++ Y1 ++ X2 ++ M ++ X1 ++ Y2 ++ B) T ∧ Alt b w wr))
  case atStart => exact ⟨0, [], X, [], Y, rfl, Nat.zero_le _, by omega, rfl, rfl, rfl, rfl, by simpa using h, Alt.refl _ _⟩
  case round =>
    obtain ⟨i, X1, X2, Y1, Y2, rfl, hi, hg, H⟩ := hrel
    clear h
    have HG := hid hg
    clear hg
    by_cases hlt : i < n
    · obtain ⟨x, X2', hx2⟩ : ∃ x l, X2 = x :: l := by
        obtain ⟨e1, e2, e3, e4, _⟩ := H.out
        have := HX.out
        cases X2 with
        | nil => rw [e1, List.length_append, e3] at this; simp at this; omega
        | cons x l => exact ⟨x, l, rfl⟩
      obtain ⟨y, Y2', hy2⟩ : ∃ x l, Y2 = x :: l := by
        obtain ⟨e1, e2, e3, e4, _⟩ := H.out
        have := HY.out
        cases Y2 with
        | nil => rw [e2, List.length_append, e4] at this; simp at this; omega
        | cons x l => exact ⟨x, l, rfl⟩
      subst hx2 hy2
      have hB : Blk wr b ((A ++ Y1) ++ x :: ((X2' ++ M ++ X1) ++ y :: (Y2' ++ B))) T := by
        have := H.out.2.2.2.2.1
        simpa using this
      have hp : off + (a + i) = (A ++ Y1).length := by
        rw [List.length_append, HA.out, H.out.2.2.2.1]; omega
      have hq : off + (c + i) = (A ++ Y1).length + 1 + (X2' ++ M ++ X1).length := by
        have h1 := HX.out
        have h2 := HM.out
        obtain ⟨e1, _, e3, _⟩ := H.out
        rw [e1] at h1
        simp only [List.length_append, List.length_cons] at h1 ⊢
        rw [HA.out, H.out.2.2.2.1]; omega
      have hS := swap_world hB hp hq
      have c1 := hB.cell _ _ (get_fst _ _ _ _ _ _ hp)
      have c2 := hB.cell _ _ (get_snd _ _ _ _ _ _ hq)
      have f1 := hB.frozen (off + (a + i))
      have f2 := hB.frozen (off + (c + i))
      have HS := hid hS
      clear hS hB hp hq
      have z1 : ((a : Int) + (i : Int)).toNat = a + i := by omega
      have z2 : ((c : Int) + (i : Int)).toNat = c + i := by omega
      go_wp2_with fail
      go_region
      go_wp2_with fail
      go_roundg (n - (i + 1))
      case measure => rw [HG.out]; omega
      case rel =>
        obtain ⟨e1, e2, e3, e4, _, e6⟩ := H.out
        refine ⟨i + 1, X1 ++ [x], X2', Y1 ++ [y], Y2', by go_num, by omega, rfl, by rw [e1]; simp, by rw [e2]; simp, by rw [List.length_append, e3]; rfl, by rw [List.length_append, e4]; rfl, ?_, e6.trans HS.out.2⟩
        have := HS.out.1
        simpa using this
    · have hin : i = n := by omega
      go_wp2_with fail
      go_end0
      obtain ⟨e1, e2, e3, e4, e5, e6⟩ := H.out
      have x2 : X2 = [] := by
        have := HX.out
        rw [e1, List.length_append, e3] at this
        exact List.eq_nil_of_length_eq_zero (by omega)
      have y2 : Y2 = [] := by
        have := HY.out
        rw [e2, List.length_append, e4] at this
        exact List.eq_nil_of_length_eq_zero (by omega)
      subst x2 y2
      rw [e1, e2]
      refine ⟨rfl, ?_, e6⟩
      simpa using e5

set_option maxHeartbeats 2000000 in
theorem rot_any (w : World) (b off a m c cap len : Nat) (A X Y B : List Int) (T : List Value) (cmp : Value) (h : Blk w b (A ++ X ++ Y ++ B) T) (hA : A.length = off + a) (hX : a + X.length = m) (hY : m + Y.length = c) (hx0 : 0 < X.length) (hy0 : 0 < Y.length) (hl : c ≤ len) (hlen : len < 1000000000000) :
    Calls Try.prog 50 #[.slice (some ⟨b, off, none⟩) len cap, .int .i64 a, .int .i64 m, .int .i64 c, cmp] w fun e w' => e = .returned (.tuple #[]) ∧ Blk w' b (A ++ Y ++ X ++ B) T ∧ Alt b w w' := by
  have HA := hid hA
  have HX := hid hX
  have HY := hid hY
  have h0 := hid (And.intro hx0 hy0)
  have hma : a < m := by omega
  have hmc : m < c := by omega
  have e1 : IntKind.i64.wrap ((m : Int) - (a : Int)) = ((m - a : Nat) : Int) := by rw [IntKind.wrap_i64]; omega
  have e2 : IntKind.i64.wrap ((c : Int) - (m : Int)) = ((c - m : Nat) : Int) := by rw [IntKind.wrap_i64]; omega
  clear hA hX hY hx0 hy0
  go_enter Try.func50, Try.ntmps50
  go_wp2_with fail
  go_loopg [10, 11] (m + c) (fun g vi vj wr => ∃ (i j : Nat) (A' X' Y' B' : List Int), vi = .int .i64 i ∧ vj = .int .i64 j ∧ 0 < i ∧ 0 < j ∧ i ≤ m - a ∧ j ≤ c - m ∧ i + j ≤ g ∧ Hid (A'.length + i = off + m ∧ X'.length = i ∧ Y'.length = j ∧ Blk wr b (A' ++ X' ++ Y' ++ B') T ∧ Alt b w wr ∧ A' ++ Y' ++ X' ++ B' = A ++ Y ++ X ++ B))
  case atStart =>
    have h1 := HA.out
    have h2 := HX.out
    have h3 := HY.out
    have h4 := h0.out
    refine ⟨m - a, c - m, A, X, Y, B, by first | rfl | (congr 1; omega), by first | rfl | (congr 1; omega), by omega, by omega, by omega, by omega, by omega, by omega, by omega, by omega, h, Alt.refl _ _, rfl⟩
  case round =>
    obtain ⟨i, j, A', X', Y', B', rfl, rfl, hi0, hj0, hi, hj, hg, H⟩ := hrel
    clear h e1 e2
    have e3 : IntKind.i64.wrap ((m : Int) - (i : Int)) = ((m - i : Nat) : Int) := by rw [IntKind.wrap_i64]; omega
    by_cases heq : i = j
    · subst heq
      have HC : Hid (∀ w2, Blk w2 b (A' ++ X' ++ [] ++ Y' ++ B') T → Calls Try.prog 51 #[.slice (some ⟨b, off, none⟩) len cap, .int .i64 ((m - i : Nat) : Int), .int .i64 m, .int .i64 i, cmp] w2 fun e w' => e = .returned (.tuple #[]) ∧ Blk w' b (A' ++ Y' ++ [] ++ X' ++ B') T ∧ Alt b w2 w') := fun w2 hb =>
        swr_any w2 b off (m - i) m i cap len A' X' [] Y' B' T cmp hb (by have := H.out.1; omega) H.out.2.1 H.out.2.2.1 (by simp; omega) (by omega) hlen
      go_wp2_with fail
      refine (HC.out _ (by simpa using H.out.2.2.2.1)).mono ?_
      rintro e w1 ⟨rfl, hb1, ha1⟩
      go_wp2_with fail
      go_end0
      obtain ⟨_, _, _, _, e6, e7⟩ := H.out
      refine ⟨rfl, ?_, e6.trans ha1⟩
      rw [← e7]
      simpa using hb1
    · by_cases hlt : j < i
      · have e4 : IntKind.i64.wrap ((i : Int) - (j : Int)) = ((i - j : Nat) : Int) := by rw [IntKind.wrap_i64]; omega
        have hne : ¬ (i : Int) = (j : Int) := by omega
        have HC : Hid (∀ w2, Blk w2 b (A' ++ X'.take j ++ X'.drop j ++ Y' ++ B') T → Calls Try.prog 51 #[.slice (some ⟨b, off, none⟩) len cap, .int .i64 ((m - i : Nat) : Int), .int .i64 m, .int .i64 j, cmp] w2 fun e w' => e = .returned (.tuple #[]) ∧ Blk w' b (A' ++ Y' ++ X'.drop j ++ X'.take j ++ B') T ∧ Alt b w2 w') := fun w2 hb =>
          swr_any w2 b off (m - i) m j cap len A' (X'.take j) (X'.drop j) Y' B' T cmp hb (by have := H.out.1; omega) (by have := H.out.2.1; rw [List.length_take]; omega) H.out.2.2.1 (by have := H.out.2.1; rw [List.length_drop]; omega) (by omega) hlen
        go_wp2_with fail
        refine (HC.out _ (by have := H.out.2.2.2.1; rw [← List.take_append_drop j X'] at this; simpa using this)).mono ?_
        rintro e w1 ⟨rfl, hb1, ha1⟩
        have H1 := hid (And.intro hb1 ha1)
        clear hb1 ha1
        go_wp2_with fail
        go_roundg (i - j + j)
        case measure => omega
        case rel =>
          obtain ⟨f1, f2, f3, f4, f5, f6⟩ := H.out
          refine ⟨i - j, j, A' ++ Y', X'.drop j, X'.take j, B', by first | rfl | (congr 1; omega), rfl, by omega, hj0, by omega, hj, by omega, by rw [List.length_append]; omega, by rw [List.length_drop]; omega, by rw [List.length_take]; omega, by simpa using H1.out.1, f5.trans H1.out.2, ?_⟩
          rw [← f6, List.append_assoc (A' ++ Y'), List.take_append_drop]
      · have e4 : IntKind.i64.wrap ((j : Int) - (i : Int)) = ((j - i : Nat) : Int) := by rw [IntKind.wrap_i64]; omega
        have e5 : IntKind.i64.wrap ((m : Int) + (j : Int) - (i : Int)) = ((m + (j - i) : Nat) : Int) := by rw [IntKind.wrap_i64]; omega
        have hne : ¬ (i : Int) = (j : Int) := by omega
        have HC : Hid (∀ w2, Blk w2 b (A' ++ X' ++ Y'.take (j - i) ++ Y'.drop (j - i) ++ B') T → Calls Try.prog 51 #[.slice (some ⟨b, off, none⟩) len cap, .int .i64 ((m - i : Nat) : Int), .int .i64 ((m + (j - i) : Nat) : Int), .int .i64 i, cmp] w2 fun e w' => e = .returned (.tuple #[]) ∧ Blk w' b (A' ++ Y'.drop (j - i) ++ Y'.take (j - i) ++ X' ++ B') T ∧ Alt b w2 w') := fun w2 hb =>
          swr_any w2 b off (m - i) (m + (j - i)) i cap len A' X' (Y'.take (j - i)) (Y'.drop (j - i)) B' T cmp hb (by have := H.out.1; omega) H.out.2.1 (by have := H.out.2.2.1; rw [List.length_drop]; omega) (by have := H.out.2.2.1; rw [List.length_take]; omega) (by omega) hlen
        go_wp2_with fail
        refine (HC.out _ (by have := H.out.2.2.2.1; rw [← List.take_append_drop (j - i) Y'] at this; simpa using this)).mono ?_
        rintro e w1 ⟨rfl, hb1, ha1⟩
        have H1 := hid (And.intro hb1 ha1)
        clear hb1 ha1
        go_wp2_with fail
        go_roundg (i + (j - i))
        case measure => omega
        case rel =>
          obtain ⟨f1, f2, f3, f4, f5, f6⟩ := H.out
          refine ⟨i, j - i, A', Y'.drop (j - i), Y'.take (j - i), X' ++ B', rfl, by first | rfl | (congr 1; omega), hi0, by omega, hi, by omega, by omega, f1, by rw [List.length_drop]; omega, by rw [List.length_take]; omega, by simpa using H1.out.1, f5.trans H1.out.2, ?_⟩
          rw [← f6]
          conv => rhs; rw [← List.take_append_drop (j - i) Y']
          simp
end Od
end Go.Proofs.Ytoknfhjclpdihaa
