import Derived.Test.YtbamhbfncddieaaOrd1
import Derived.Below
import Derived.WalkKit
import Derived.OwnWalk
import Derived.RegionTactic
import Derived.BigRegion
import Derived.BigQuiet
import Derived.Deep.QuietTactic
import Derived.Deep.RegionHeld3
import Derived.Deep.LoopGhost
import Derived.Laws.Pointers
namespace Go.Proofs.Ytbamhbfncddieaa
namespace Od
open Go.RowKit

theorem hid {p : Prop} (h : p) : Hid p := h
def i32s (l : List Int) : List Value := l.map (.int .i32 ·)
theorem i32s_len (l : List Int) : (i32s l).length = l.length := by simp [i32s]

/-- A block that begins with these runes. -/
def Blk (w : World) (b : Nat) (R : List Int) (T : List Value) : Prop := w.heap[b]? = some (.cells (i32s R ++ T).toArray 21)
theorem Blk.lt {w : World} {b : Nat} {R : List Int} {T : List Value} (h : Blk w b R T) : b < w.heap.size := (Array.getElem?_eq_some_iff.1 h).1
theorem Blk.cell {w : World} {b : Nat} {R : List Int} {T : List Value} (h : Blk w b R T) (k : Nat) (v : Int) (hk : R[k]? = some v) : w.cell? ⟨b, k, none⟩ = some (.int .i32 v) := by
  have h' : w.heap[b]? = _ := h
  have hlt : k < R.length := (List.getElem?_eq_some_iff.1 hk).1
  simp only [World.cell?, h', List.getElem?_toArray]
  rw [List.getElem?_append_left (by rw [i32s_len]; exact hlt)]
  simp [i32s, hk]
theorem Blk.frozen {w : World} {b : Nat} {R : List Int} {T : List Value} (h : Blk w b R T) (k : Nat) : w.frozen? ⟨b, k, none⟩ = false := by
  have h' : w.heap[b]? = _ := h
  simp [World.frozen?, h']
theorem Blk.drew {w : World} {b : Nat} {R : List Int} {T : List Value} (h : Blk w b R T) : Blk w.drew b R T := h
theorem Blk.set {w : World} {b : Nat} {R : List Int} {T : List Value} (h : Blk w b R T) (k : Nat) (v : Int) (hk : k < R.length) : Blk (w.setCell ⟨b, k, none⟩ (.int .i32 v)) b (R.set k v) T := by
  have h' : w.heap[b]? = _ := h
  have e : (i32s R ++ T).set k (.int .i32 v) = i32s (R.set k v) ++ T := by
    rw [List.set_append_left _ _ (by rw [i32s_len]; exact hk)]
    simp [i32s, List.map_set]
  simp [Blk, World.setCell, Array.getElem?_modify, h', e]

/-- A world in which, of what lay there, one block alone may have turned. -/
structure Alt (b : Nat) (w w' : World) : Prop where
  os : w'.os = w.os
  tape : w'.tape = w.tape
  output : w'.output = w.output
  size : w.heap.size ≤ w'.heap.size
  block : ∀ k, k < w.heap.size → k ≠ b → w'.heap[k]? = w.heap[k]?
theorem Alt.refl (b : Nat) (w : World) : Alt b w w := ⟨rfl, rfl, rfl, Nat.le_refl _, fun _ _ _ => rfl⟩
theorem Alt.trans {b : Nat} {u v w : World} (h : Alt b u v) (k : Alt b v w) : Alt b u w :=
  ⟨k.os.trans h.os, k.tape.trans h.tape, k.output.trans h.output, Nat.le_trans h.size k.size, fun i hi hb => (k.block i (Nat.lt_of_lt_of_le hi h.size) hb).trans (h.block i hi hb)⟩
theorem Alt.of {b : Nat} {w w' : World} (h : Below w.heap.size w w') : Alt b w w' := ⟨h.os, h.tape, h.output, h.size, fun k hk _ => h.block k hk⟩
theorem Alt.drew {b : Nat} {u v : World} (h : Alt b u v) : Alt b u v.drew := ⟨h.os, h.tape, h.output, h.size, h.block⟩
theorem Alt.set {b : Nat} {u v : World} (h : Alt b u v) (k : Nat) (x : Value) : Alt b u (v.setCell ⟨b, k, none⟩ x) :=
  h.trans ⟨rfl, rfl, rfl, by simp [World.setCell], fun i _ hi => Below.heap_setCell _ _ _ _ hi⟩
theorem Alt.below {B b : Nat} {w w' : World} (h : Alt b w w') (hB : B ≤ w.heap.size) (hb : B ≤ b) : Below B w w' := ⟨h.os, h.tape, h.output, h.size, fun k hk => h.block k (by omega) (by omega)⟩
theorem Blk.step {w w' : World} {b : Nat} {R : List Int} {T : List Value} (h : Blk w b R T) (hb : Below w.heap.size w w') : Blk w' b R T := (hb.block b h.lt).trans h

/-- Two change places. -/
theorem set_swap (U V Z : List Int) (x y : Int) (p q : Nat) (hp : p = U.length) (hq : q = U.length + 1 + V.length) : ((U ++ x :: (V ++ y :: Z)).set p y).set q x = U ++ y :: (V ++ x :: Z) := by
  subst hp hq
  rw [List.set_append_right _ _ (Nat.le_refl _), Nat.sub_self, List.set_cons_zero, List.set_append_right _ _ (by omega)]
  rw [show U.length + 1 + V.length - U.length = V.length + 1 by omega, List.set_cons_succ, List.set_append_right _ _ (Nat.le_refl _), Nat.sub_self, List.set_cons_zero]
theorem get_fst (U V Z : List Int) (x y : Int) (p : Nat) (hp : p = U.length) : (U ++ x :: (V ++ y :: Z))[p]? = some x := by subst hp; simp
theorem get_snd (U V Z : List Int) (x y : Int) (q : Nat) (hq : q = U.length + 1 + V.length) : (U ++ x :: (V ++ y :: Z))[q]? = some y := by
  subst hq
  rw [List.getElem?_append_right (by omega), show U.length + 1 + V.length - U.length = V.length + 1 by omega, List.getElem?_cons_succ, List.getElem?_append_right (Nat.le_refl _), Nat.sub_self]
  rfl

theorem swap_world {w : World} {b : Nat} {U V Z : List Int} {x y : Int} {T : List Value} {p q : Nat} (h : Blk w b (U ++ x :: (V ++ y :: Z)) T) (hp : p = U.length) (hq : q = U.length + 1 + V.length) :
    Blk ((w.setCell ⟨b, p, none⟩ (.int .i32 y)).setCell ⟨b, q, none⟩ (.int .i32 x)).drew b (U ++ y :: (V ++ x :: Z)) T ∧ Alt b w ((w.setCell ⟨b, p, none⟩ (.int .i32 y)).setCell ⟨b, q, none⟩ (.int .i32 x)).drew := by
  refine ⟨?_, (((Alt.refl b w).set _ _).set _ _).drew⟩
  have h1 := (h.set p y (by simp; omega)).set q x (by simp; omega)
  rw [set_swap U V Z x y p q hp hq] at h1
  exact h1.drew
/-- The like, the second one written first. -/
theorem swap_world' {w : World} {b : Nat} {U V Z : List Int} {x y : Int} {T : List Value} {p q : Nat} (h : Blk w b (U ++ x :: (V ++ y :: Z)) T) (hp : p = U.length) (hq : q = U.length + 1 + V.length) :
    Blk ((w.setCell ⟨b, q, none⟩ (.int .i32 x)).setCell ⟨b, p, none⟩ (.int .i32 y)).drew b (U ++ y :: (V ++ x :: Z)) T ∧ Alt b w ((w.setCell ⟨b, q, none⟩ (.int .i32 x)).setCell ⟨b, p, none⟩ (.int .i32 y)).drew := by
  refine ⟨?_, (((Alt.refl b w).set _ _).set _ _).drew⟩
  have h1 := (h.set q x (by simp; omega)).set p y (by simp; omega)
  rw [List.set_comm _ _ (by omega), set_swap U V Z x y p q hp hq] at h1
  exact h1.drew

set_option maxHeartbeats 2000000 in
theorem swr_any (w : World) (b off a c n cap len : Nat) (A X M Y B : List Int) (T : List Value) (cmp : Value) (h : Blk w b (A ++ X ++ M ++ Y ++ B) T) (hA : A.length = off + a) (hX : X.length = n) (hY : Y.length = n) (hM : a + n + M.length = c) (hl : c + n ≤ len) (hlen : len < 1000000000000) :
    Calls Try.prog 118 #[.slice (some ⟨b, off, none⟩) len cap, .int .i64 a, .int .i64 c, .int .i64 n, cmp] w fun e w' => e = .returned (.tuple #[]) ∧ Blk w' b (A ++ Y ++ M ++ X ++ B) T ∧ Alt b w w' := by
  have HX := hid hX
  have HY := hid hY
  have HM := hid hM
  have HA := hid hA
  have hcn : a + n ≤ c := by omega
  clear hX hY hM hA
  go_enter Try.func118, Try.ntmps118
  go_wp2_with fail
  go_loopg [10] n (fun g vi wr => ∃ (i : Nat) (X1 X2 Y1 Y2 : List Int), vi = .int .i64 i ∧ i ≤ n ∧ g = n - i ∧ Hid (X = X1 ++ X2 ∧ Y = Y1 ++ Y2 ∧ X1.length = i ∧ Y1.length = i ∧ Blk wr b (A ++ Y1 ++ X2 ++ M ++ X1 ++ Y2 ++ B) T ∧ Alt b w wr))
  case atStart => exact ⟨0, [], X, [], Y, rfl, Nat.zero_le _, by omega, rfl, rfl, rfl, rfl, by simpa using h, Alt.refl _ _⟩
  case round =>
    obtain ⟨i, X1, X2, Y1, Y2, rfl, hi, hg, H⟩ := hrel
    clear h
    have HG := hid hg
    clear hg
    by_cases hlt : i < n
    · obtain ⟨x, X2', hx2⟩ : ∃ x l, X2 = x :: l := by
        obtain ⟨e1, e2, e3, e4, _⟩ := H.out
        have := HX.out
        cases X2 with
        | nil => rw [e1, List.length_append, e3] at this; simp at this; omega
        | cons x l => exact ⟨x, l, rfl⟩
      obtain ⟨y, Y2', hy2⟩ : ∃ x l, Y2 = x :: l := by
        obtain ⟨e1, e2, e3, e4, _⟩ := H.out
        have := HY.out
        cases Y2 with
        | nil => rw [e2, List.length_append, e4] at this; simp at this; omega
        | cons x l => exact ⟨x, l, rfl⟩
      subst hx2 hy2
      have hB : Blk wr b ((A ++ Y1) ++ x :: ((X2' ++ M ++ X1) ++ y :: (Y2' ++ B))) T := by
        have := H.out.2.2.2.2.1
        simpa using this
      have hp : off + (a + i) = (A ++ Y1).length := by
        rw [List.length_append, HA.out, H.out.2.2.2.1]; omega
      have hq : off + (c + i) = (A ++ Y1).length + 1 + (X2' ++ M ++ X1).length := by
        have h1 := HX.out
        have h2 := HM.out
        obtain ⟨e1, _, e3, _⟩ := H.out
        rw [e1] at h1
        simp only [List.length_append, List.length_cons] at h1 ⊢
        rw [HA.out, H.out.2.2.2.1]; omega
      have hS := swap_world hB hp hq
      have c1 := hB.cell _ _ (get_fst _ _ _ _ _ _ hp)
      have c2 := hB.cell _ _ (get_snd _ _ _ _ _ _ hq)
      have f1 := hB.frozen (off + (a + i))
      have f2 := hB.frozen (off + (c + i))
      have HS := hid hS
      clear hS hB hp hq
      have z1 : ((a : Int) + (i : Int)).toNat = a + i := by omega
      have z2 : ((c : Int) + (i : Int)).toNat = c + i := by omega
      go_wp2_with fail
      go_region
      go_wp2_with fail
      go_roundg (n - (i + 1))
      case measure => rw [HG.out]; omega
      case rel =>
        obtain ⟨e1, e2, e3, e4, _, e6⟩ := H.out
        refine ⟨i + 1, X1 ++ [x], X2', Y1 ++ [y], Y2', by go_num, by omega, rfl, by rw [e1]; simp, by rw [e2]; simp, by rw [List.length_append, e3]; rfl, by rw [List.length_append, e4]; rfl, ?_, e6.trans HS.out.2⟩
        have := HS.out.1
        simpa using this
    · have hin : i = n := by omega
      go_wp2_with fail
      go_end0
      obtain ⟨e1, e2, e3, e4, e5, e6⟩ := H.out
      have x2 : X2 = [] := by
        have := HX.out
        rw [e1, List.length_append, e3] at this
        exact List.eq_nil_of_length_eq_zero (by omega)
      have y2 : Y2 = [] := by
        have := HY.out
        rw [e2, List.length_append, e4] at this
        exact List.eq_nil_of_length_eq_zero (by omega)
      subst x2 y2
      rw [e1, e2]
      refine ⟨rfl, ?_, e6⟩
      simpa using e5

set_option maxHeartbeats 2000000 in
theorem rot_any (w : World) (b off a m c cap len : Nat) (A X Y B : List Int) (T : List Value) (cmp : Value) (h : Blk w b (A ++ X ++ Y ++ B) T) (hA : A.length = off + a) (hX : a + X.length = m) (hY : m + Y.length = c) (hx0 : 0 < X.length) (hy0 : 0 < Y.length) (hl : c ≤ len) (hlen : len < 1000000000000) :
    Calls Try.prog 117 #[.slice (some ⟨b, off, none⟩) len cap, .int .i64 a, .int .i64 m, .int .i64 c, cmp] w fun e w' => e = .returned (.tuple #[]) ∧ Blk w' b (A ++ Y ++ X ++ B) T ∧ Alt b w w' := by
  have HA := hid hA
  have HX := hid hX
  have HY := hid hY
  have h0 := hid (And.intro hx0 hy0)
  have hma : a < m := by omega
  have hmc : m < c := by omega
  have e1 : IntKind.i64.wrap ((m : Int) - (a : Int)) = ((m - a : Nat) : Int) := by rw [IntKind.wrap_i64]; omega
  have e2 : IntKind.i64.wrap ((c : Int) - (m : Int)) = ((c - m : Nat) : Int) := by rw [IntKind.wrap_i64]; omega
  clear hA hX hY hx0 hy0
  go_enter Try.func117, Try.ntmps117
  go_wp2_with fail
  go_loopg [10, 11] (m + c) (fun g vi vj wr => ∃ (i j : Nat) (A' X' Y' B' : List Int), vi = .int .i64 i ∧ vj = .int .i64 j ∧ 0 < i ∧ 0 < j ∧ i ≤ m - a ∧ j ≤ c - m ∧ i + j ≤ g ∧ Hid (A'.length + i = off + m ∧ X'.length = i ∧ Y'.length = j ∧ Blk wr b (A' ++ X' ++ Y' ++ B') T ∧ Alt b w wr ∧ A' ++ Y' ++ X' ++ B' = A ++ Y ++ X ++ B))
  case atStart =>
    have h1 := HA.out
    have h2 := HX.out
    have h3 := HY.out
    have h4 := h0.out
    refine ⟨m - a, c - m, A, X, Y, B, by first | rfl | (congr 1; omega), by first | rfl | (congr 1; omega), by omega, by omega, by omega, by omega, by omega, by omega, by omega, by omega, h, Alt.refl _ _, rfl⟩
  case round =>
    obtain ⟨i, j, A', X', Y', B', rfl, rfl, hi0, hj0, hi, hj, hg, H⟩ := hrel
    clear h e1 e2
    have e3 : IntKind.i64.wrap ((m : Int) - (i : Int)) = ((m - i : Nat) : Int) := by rw [IntKind.wrap_i64]; omega
    by_cases heq : i = j
    · subst heq
      have HC : Hid (∀ w2, Blk w2 b (A' ++ X' ++ [] ++ Y' ++ B') T → Calls Try.prog 118 #[.slice (some ⟨b, off, none⟩) len cap, .int .i64 ((m - i : Nat) : Int), .int .i64 m, .int .i64 i, cmp] w2 fun e w' => e = .returned (.tuple #[]) ∧ Blk w' b (A' ++ Y' ++ [] ++ X' ++ B') T ∧ Alt b w2 w') := fun w2 hb =>
        swr_any w2 b off (m - i) m i cap len A' X' [] Y' B' T cmp hb (by have := H.out.1; omega) H.out.2.1 H.out.2.2.1 (by simp; omega) (by omega) hlen
      go_wp2_with fail
      refine (HC.out _ (by simpa using H.out.2.2.2.1)).mono ?_
      rintro e w1 ⟨rfl, hb1, ha1⟩
      go_wp2_with fail
      go_end0
      obtain ⟨_, _, _, _, e6, e7⟩ := H.out
      refine ⟨rfl, ?_, e6.trans ha1⟩
      rw [← e7]
      simpa using hb1
    · by_cases hlt : j < i
      · have e4 : IntKind.i64.wrap ((i : Int) - (j : Int)) = ((i - j : Nat) : Int) := by rw [IntKind.wrap_i64]; omega
        have hne : ¬ (i : Int) = (j : Int) := by omega
        have HC : Hid (∀ w2, Blk w2 b (A' ++ X'.take j ++ X'.drop j ++ Y' ++ B') T → Calls Try.prog 118 #[.slice (some ⟨b, off, none⟩) len cap, .int .i64 ((m - i : Nat) : Int), .int .i64 m, .int .i64 j, cmp] w2 fun e w' => e = .returned (.tuple #[]) ∧ Blk w' b (A' ++ Y' ++ X'.drop j ++ X'.take j ++ B') T ∧ Alt b w2 w') := fun w2 hb =>
          swr_any w2 b off (m - i) m j cap len A' (X'.take j) (X'.drop j) Y' B' T cmp hb (by have := H.out.1; omega) (by have := H.out.2.1; rw [List.length_take]; omega) H.out.2.2.1 (by have := H.out.2.1; rw [List.length_drop]; omega) (by omega) hlen
        go_wp2_with fail
        refine (HC.out _ (by have := H.out.2.2.2.1; rw [← List.take_append_drop j X'] at this; simpa using this)).mono ?_
        rintro e w1 ⟨rfl, hb1, ha1⟩
        have H1 := hid (And.intro hb1 ha1)
        clear hb1 ha1
        go_wp2_with fail
        go_roundg (i - j + j)
        case measure => omega
        case rel =>
          obtain ⟨f1, f2, f3, f4, f5, f6⟩ := H.out
          refine ⟨i - j, j, A' ++ Y', X'.drop j, X'.take j, B', by first | rfl | (congr 1; omega), rfl, by omega, hj0, by omega, hj, by omega, by rw [List.length_append]; omega, by rw [List.length_drop]; omega, by rw [List.length_take]; omega, by simpa using H1.out.1, f5.trans H1.out.2, ?_⟩
          rw [← f6, List.append_assoc (A' ++ Y'), List.take_append_drop]
      · have e4 : IntKind.i64.wrap ((j : Int) - (i : Int)) = ((j - i : Nat) : Int) := by rw [IntKind.wrap_i64]; omega
        have e5 : IntKind.i64.wrap ((m : Int) + (j : Int) - (i : Int)) = ((m + (j - i) : Nat) : Int) := by rw [IntKind.wrap_i64]; omega
        have hne : ¬ (i : Int) = (j : Int) := by omega
        have HC : Hid (∀ w2, Blk w2 b (A' ++ X' ++ Y'.take (j - i) ++ Y'.drop (j - i) ++ B') T → Calls Try.prog 118 #[.slice (some ⟨b, off, none⟩) len cap, .int .i64 ((m - i : Nat) : Int), .int .i64 ((m + (j - i) : Nat) : Int), .int .i64 i, cmp] w2 fun e w' => e = .returned (.tuple #[]) ∧ Blk w' b (A' ++ Y'.drop (j - i) ++ Y'.take (j - i) ++ X' ++ B') T ∧ Alt b w2 w') := fun w2 hb =>
          swr_any w2 b off (m - i) (m + (j - i)) i cap len A' X' (Y'.take (j - i)) (Y'.drop (j - i)) B' T cmp hb (by have := H.out.1; omega) H.out.2.1 (by have := H.out.2.2.1; rw [List.length_drop]; omega) (by have := H.out.2.2.1; rw [List.length_take]; omega) (by omega) hlen
        go_wp2_with fail
        refine (HC.out _ (by have := H.out.2.2.2.1; rw [← List.take_append_drop (j - i) Y'] at this; simpa using this)).mono ?_
        rintro e w1 ⟨rfl, hb1, ha1⟩
        have H1 := hid (And.intro hb1 ha1)
        clear hb1 ha1
        go_wp2_with fail
        go_roundg (i + (j - i))
        case measure => omega
        case rel =>
          obtain ⟨f1, f2, f3, f4, f5, f6⟩ := H.out
          refine ⟨i, j - i, A', Y'.drop (j - i), Y'.take (j - i), X' ++ B', rfl, by first | rfl | (congr 1; omega), hi0, by omega, hi, by omega, by omega, f1, by rw [List.length_drop]; omega, by rw [List.length_take]; omega, by simpa using H1.out.1, f5.trans H1.out.2, ?_⟩
          rw [← f6]
          conv => rhs; rw [← List.take_append_drop (j - i) Y']
          simp
end Od
end Go.Proofs.Ytbamhbfncddieaa

namespace Go.Proofs.Ytbamhbfncddieaa
namespace Od
open Go.RowKit

/-- What cmp.Compare tells. -/
def cmpI (a b : Int) : Int := if a < b then -1 else if b < a then 1 else 0
theorem cmpI_lt (a b : Int) : cmpI a b < 0 ↔ a < b := by
  unfold cmpI
  split
  · simp [*]
  · split <;> omega

/-- The function that holds the classes of two against each other, as long as G is kept. -/
structure Cmp (c : Int → Int) (G : World → Prop) (b : Nat) (cb : Array Value) : Prop where
  call : ∀ W x y, 0 < c x → 0 < c y → G W → Calls Try.prog 112 (#[.int .i32 x, .int .i32 y] ++ cb) W fun e w' => e = .returned (.int .i64 (cmpI (c x) (c y))) ∧ Below W.heap.size W w'
  keep : ∀ W W', G W → Alt b W W' → G W'

/-- Classes rise. -/
def Pw (c : Int → Int) (l : List Int) : Prop := l.Pairwise (fun x y => c x ≤ c y)
theorem Pw.ord {c : Int → Int} : ∀ {l : List Int}, Pw c l → Ord c l
  | [], _ => trivial
  | [_], _ => trivial
  | x :: y :: l, h => by
    have h1 := List.pairwise_cons.1 h
    exact ⟨by have := h1.1 y (by simp); omega, Pw.ord h1.2⟩
theorem Pw.put {c : Int → Int} {P Q : List Int} {x : Int} (h : Pw c (P ++ Q)) (h1 : ∀ p ∈ P, c p ≤ c x) (h2 : ∀ q ∈ Q, c x < c q) : Pw c (P ++ x :: Q) := by
  unfold Pw at h ⊢
  rw [List.pairwise_append] at h ⊢
  refine ⟨h.1, List.pairwise_cons.2 ⟨fun q hq => Int.le_of_lt (h2 q hq), h.2.1⟩, fun p hp q hq => ?_⟩
  rcases List.mem_cons.1 hq with rfl | hq
  · exact h1 p hp
  · exact h.2.2 p hp q hq
theorem Pw.last {c : Int → Int} {P : List Int} {p x : Int} (h : Pw c (P ++ [p])) (h1 : c p ≤ c x) : ∀ q ∈ P ++ [p], c q ≤ c x := by
  intro q hq
  unfold Pw at h
  rw [List.pairwise_append] at h
  rcases List.mem_append.1 hq with hq | hq
  · have := h.2.2 q hq p (by simp); omega
  · simp at hq; subst hq; exact h1

/-- What a walk through a row keeps. -/
def St (G : World → Prop) (b : Nat) (w0 : World) (R : List Int) (T : List Value) (W : World) : Prop := Blk W b R T ∧ G W ∧ Alt b w0 W
theorem St.step {c : Int → Int} {G : World → Prop} {b : Nat} {cb : Array Value} {w0 W W' : World} {R : List Int} {T : List Value} (hC : Cmp c G b cb) (h : St G b w0 R T W) (hb : Below W.heap.size W W') : St G b w0 R T W' :=
  ⟨h.1.step hb, hC.keep _ _ h.2.1 (Alt.of hb), h.2.2.trans (Alt.of hb)⟩
theorem St.turn {c : Int → Int} {G : World → Prop} {b : Nat} {cb : Array Value} {w0 W W' : World} {R R' : List Int} {T : List Value} (hC : Cmp c G b cb) (h : St G b w0 R T W) (hb : Blk W' b R' T ∧ Alt b W W') : St G b w0 R' T W' :=
  ⟨hb.1, hC.keep _ _ h.2.1 hb.2, h.2.2.trans hb.2⟩

/-- A row whose X has been turned into Y. -/
def Row (c : Int → Int) (G : World → Prop) (b : Nat) (w0 : World) (A X B : List Int) (T : List Value) (Y : List Int) (W : World) : Prop := Sw c X Y ∧ St G b w0 (A ++ Y ++ B) T W

theorem Row.pos {c : Int → Int} {G : World → Prop} {b : Nat} {w0 : World} {A X B : List Int} {T : List Value} {Y : List Int} {W : World} (h : Row c G b w0 A X B T Y W) (hp : ∀ x ∈ X, 0 < c x) : ∀ y ∈ Y, 0 < c y := fun y hy => hp y (h.1.perm.mem_iff.2 hy)
theorem Row.step {c : Int → Int} {G : World → Prop} {b : Nat} {cb : Array Value} {w0 W W' : World} {A X B Y : List Int} {T : List Value} (hC : Cmp c G b cb) (h : Row c G b w0 A X B T Y W) (hb : Below W.heap.size W W') : Row c G b w0 A X B T Y W' := ⟨h.1, h.2.step hC hb⟩
theorem Row.get {c : Int → Int} {G : World → Prop} {b : Nat} {w0 W : World} {A X B Y : List Int} {T : List Value} (h : Row c G b w0 A X B T Y W) (k : Nat) (v : Int) (hk : Y[k]? = some v) (p : Nat) (hp : p = A.length + k) : W.cell? ⟨b, p, none⟩ = some (.int .i32 v) := by
  subst hp
  refine h.2.1.cell _ _ ?_
  have hlt := (List.getElem?_eq_some_iff.1 hk).1
  rw [List.append_assoc, List.getElem?_append_right (by omega), Nat.add_sub_cancel_left, List.getElem?_append_left hlt, hk]
theorem Row.frozen {c : Int → Int} {G : World → Prop} {b : Nat} {w0 W : World} {A X B Y : List Int} {T : List Value} (h : Row c G b w0 A X B T Y W) (p : Nat) : W.frozen? ⟨b, p, none⟩ = false := h.2.1.frozen p
/-- Neighbours change places in it. -/
theorem Row.swap {c : Int → Int} {G : World → Prop} {b : Nat} {cb : Array Value} {w0 W : World} {A X B P Q : List Int} {T : List Value} {x y : Int} (hC : Cmp c G b cb) (h : Row c G b w0 A X B T (P ++ x :: y :: Q) W) (h0 : 0 < c y) (h1 : c y < c x) (p q : Nat) (hp : p = A.length + P.length) (hq : q = p + 1) :
    Row c G b w0 A X B T (P ++ y :: x :: Q) ((W.setCell ⟨b, p, none⟩ (.int .i32 y)).setCell ⟨b, q, none⟩ (.int .i32 x)).drew ∧ Row c G b w0 A X B T (P ++ y :: x :: Q) ((W.setCell ⟨b, q, none⟩ (.int .i32 x)).setCell ⟨b, p, none⟩ (.int .i32 y)).drew := by
  have hb : Blk W b ((A ++ P) ++ x :: ([] ++ y :: (Q ++ B))) T := by simpa using h.2.1
  have e : A ++ (P ++ y :: x :: Q) ++ B = (A ++ P) ++ y :: ([] ++ x :: (Q ++ B)) := by simp
  have hp' : p = (A ++ P).length := by rw [List.length_append]; exact hp
  have hq' : q = (A ++ P).length + 1 + ([] : List Int).length := by rw [← hp']; simpa using hq
  refine ⟨⟨.step P x y Q h0 h1 h.1, ?_⟩, ⟨.step P x y Q h0 h1 h.1, ?_⟩⟩
  · rw [e]; exact h.2.turn hC (swap_world hb hp' hq')
  · rw [e]; exact h.2.turn hC (swap_world' hb hp' hq')

set_option maxHeartbeats 4000000 in
set_option maxRecDepth 100000 in
theorem isrt_any {c : Int → Int} {G : World → Prop} {cb : Array Value} (w : World) (b off a m cap len : Nat) (hC : Cmp c G b cb) (A X B : List Int) (T : List Value) (h : Blk w b (A ++ X ++ B) T) (hG : G w) (hA : A.length = off + a) (hX : a + X.length = m) (hl : m ≤ len) (hlen : len < 1000000000000)
    (hpos : ∀ x ∈ X, 0 < c x) :
    Calls Try.prog 114 #[.slice (some ⟨b, off, none⟩) len cap, .int .i64 a, .int .i64 m, .func (.func 112) #[] cb] w fun e w' => e = .returned (.tuple #[]) ∧ ∃ X', Pw c X' ∧ Row c G b w A X B T X' w' := by
  have HC := hid hC
  have HA := hid hA
  have HX := hid hX
  have HP := hid hpos
  have HS : Hid (Row c G b w A X B T X w) := ⟨.refl _, h, hG, Alt.refl _ _⟩
  have ham : a ≤ m := by omega
  clear hC hA hX hpos h hG
  by_cases hx0 : m ≤ a + 1
  · go_enter Try.func114, Try.ntmps114
    go_wp2_with fail
    refine wp_loop_rounds 1 ?_
    rw [rounds_succ]
    go_wp2_with fail
    go_end0
    refine ⟨rfl, X, ?_, HS.out⟩
    have := HX.out
    match X, this with
    | [], _ => exact List.Pairwise.nil
    | [x], _ => exact List.pairwise_singleton _ _
    | x :: y :: l, h => simp at h; omega
  · go_enter Try.func114, Try.ntmps114
    go_wp2_with fail
    go_loopg [8] (m - (a + 1)) (fun g vi wr => ∃ i : Nat, vi = .int .i64 i ∧ a < i ∧ i ≤ m ∧ g = m - i ∧ Hid (∃ P Q, P.length + a = i ∧ Pw c P ∧ Row c G b w A X B T (P ++ Q) wr))
    case atStart =>
      refine ⟨a + 1, by go_num, by omega, by omega, by omega, ?_⟩
      have := HX.out
      match X, this with
      | [], h => simp at h; omega
      | x :: l, _ => exact ⟨[x], l, by simp; omega, List.pairwise_singleton _ _, HS.out⟩
    case round =>
      obtain ⟨i, rfl, hai, him, hg, H⟩ := hrel
      have HG := hid hg
      clear hg HS
      by_cases hlt : i < m
      · have hltz : (i : Int) < (m : Int) := by omega
        obtain ⟨P, x, Q, H1⟩ : ∃ P x Q, Hid (P.length + a = i ∧ Pw c P ∧ Row c G b w A X B T (P ++ x :: Q) wr) := by
          obtain ⟨P, Q, h1, h2, h3⟩ := H.out
          match Q with
          | [] =>
            have h4 := h3.1.len
            have h5 := HX.out
            simp at h4; omega
          | x :: Q => exact ⟨P, x, Q, h1, h2, h3⟩
        have h0x : 0 < c x := H1.out.2.2.pos HP.out x (by simp)
        clear H
        go_wp2_with fail
        go_loopg [9] i (fun g2 vj wr2 => ∃ j : Nat, vj = .int .i64 j ∧ a ≤ j ∧ j ≤ i ∧ g2 = j ∧ Hid (∃ P1 P2, P = P1 ++ P2 ∧ P1.length + a = j ∧ (∀ p ∈ P2, c x < c p) ∧ Row c G b w A X B T (P1 ++ x :: (P2 ++ Q)) wr2))
        case atStart => exact ⟨i, rfl, by omega, Nat.le_refl _, rfl, P, [], by simp, H1.out.1, fun p hp => by simp at hp, by simpa using H1.out.2.2⟩
        case round =>
          obtain ⟨j, rfl, haj, hji, hg2, H2⟩ := hrel
          have HPP := hid H1.out.2.1
          have HPL := hid H1.out.1
          have HG2 := hid hg2
          clear H1 hg2
          by_cases hja : a < j
          · have hjaz : (a : Int) < (j : Int) := by omega
            obtain ⟨jp, rfl⟩ : ∃ jp, j = jp + 1 := ⟨j - 1, by omega⟩
            obtain ⟨P1, p, P2, H3⟩ : ∃ P1 p P2, Hid (P = P1 ++ [p] ++ P2 ∧ P1.length + a = jp ∧ (∀ p ∈ P2, c x < c p) ∧ Row c G b w A X B T (P1 ++ p :: x :: (P2 ++ Q)) wr) := by
              obtain ⟨P1, P2, e1, e2, e3, e4⟩ := H2.out
              have hne : P1 ≠ [] := by intro e; rw [e] at e2; simp at e2; omega
              refine ⟨P1.dropLast, P1.getLast hne, P2, ?_, ?_, e3, ?_⟩
              · rw [List.dropLast_concat_getLast, e1]
              · rw [List.length_dropLast]; omega
              · have : P1 ++ x :: (P2 ++ Q) = P1.dropLast ++ P1.getLast hne :: x :: (P2 ++ Q) := by
                  conv => lhs; rw [← List.dropLast_concat_getLast hne]
                  simp
                rw [this] at e4; exact e4
            clear H2
            have hA1 := HA.out
            have q1 : off + jp = A.length + P1.length := by have := H3.out.2.1; omega
            have q2 : off + (jp + 1) = A.length + (P1.length + 1) := by omega
            have k1 : (P1 ++ p :: x :: (P2 ++ Q))[P1.length]? = some p := by simp
            have k2 : (P1 ++ p :: x :: (P2 ++ Q))[P1.length + 1]? = some x := by simp
            have KK := hid (And.intro q1 (And.intro q2 (And.intro k1 k2)))
            have HR : Hid (Row c G b w A X B T (P1 ++ p :: x :: (P2 ++ Q)) wr.drew) := H3.out.2.2.2.step HC.out ((Below.refl _ _).drew)
            have HR0 : Hid (Row c G b w A X B T (P1 ++ p :: x :: (P2 ++ Q)) wr) := H3.out.2.2.2
            clear hA1 q1 q2 k1 k2
            have jz : (jp : Int) + 1 < (len : Int) := by omega
            have jz1 : (jp : Int) < (len : Int) := by omega
            have hwp : IntKind.i64.wrap (jp : Int) = (jp : Int) := by rw [IntKind.wrap_i64]; omega
            have p0 : (0 : Int) ≤ (jp : Int) + 1 := by omega
            have e0 : ((jp : Int) + 1).toNat = jp + 1 := by omega
            have hjaz' : (a : Int) < (jp : Int) + 1 := by omega
            have HPos : Hid (0 < c x ∧ 0 < c p) := ⟨HR.out.pos HP.out x (by simp), HR.out.pos HP.out p (by simp)⟩
            by_cases hcx : c x < c p
            · have hv : cmpI (c x) (c p) < 0 := (cmpI_lt _ _).2 hcx
              have HV := hid (fun W (h : G W) => HC.out.call W x p HPos.out.1 HPos.out.2 h)
              have HX2 := hid (And.intro h0x hcx)
              generalize cmpI (c x) (c p) = v at *
              clear hcx h0x
              go_wp2_with fail
              go_region_held3 (fun w' => w'.cell? ⟨b, off + jp, none⟩ = some (.int .i32 p) ∧ w'.cell? ⟨b, off + (jp + 1), none⟩ = some (.int .i32 x))
                (first | exact ⟨HR.out.get _ _ KK.out.2.2.1 _ KK.out.1, HR.out.get _ _ KK.out.2.2.2 _ KK.out.2.1⟩ | exact ⟨HR0.out.get _ _ KK.out.2.2.1 _ KK.out.1, HR0.out.get _ _ KK.out.2.2.2 _ KK.out.2.1⟩)
                (first | (go_at_call 112; refine (HV.out _ HR.out.2.2.1).mono ?_; rintro e w' ⟨rfl, hb'⟩; replace HR := hid (HR.out.step HC.out hb'); clear hb'))
              go_wp2_with fail
              have c1 := HR.out.get _ _ KK.out.2.2.1 _ KK.out.1
              have c2 := HR.out.get _ _ KK.out.2.2.2 _ KK.out.2.1
              have f1 := HR.out.frozen (off + jp)
              have f2 := HR.out.frozen (off + (jp + 1))
              have HSW := hid (HR.out.swap HC.out HX2.out.1 HX2.out.2 (off + jp) (off + (jp + 1)) KK.out.1 rfl)
              clear HR HR0
              go_region
              go_wp2_with fail
              go_roundg jp
              case measure => rw [HG2.out]; omega
              case rel =>
                obtain ⟨e1, e2, e3, _⟩ := H3.out
                refine ⟨jp, by first | rfl | go_num | (congr 1; omega), by omega, by omega, rfl, P1, p :: P2, by rw [e1]; simp, e2, ?_, by first | exact HSW.out.2 | exact HSW.out.1⟩
                intro q hq
                rcases List.mem_cons.1 hq with rfl | hq
                · exact HX2.out.2
                · exact e3 q hq
            · have hv : ¬ cmpI (c x) (c p) < 0 := fun h => hcx ((cmpI_lt _ _).1 h)
              have HV := hid (fun W (h : G W) => HC.out.call W x p HPos.out.1 HPos.out.2 h)
              have HX2 := hid hcx
              generalize cmpI (c x) (c p) = v at *
              clear hcx h0x
              go_wp2_with fail
              go_region_held3 (fun w' => w'.cell? ⟨b, off + jp, none⟩ = some (.int .i32 p) ∧ w'.cell? ⟨b, off + (jp + 1), none⟩ = some (.int .i32 x))
                (first | exact ⟨HR.out.get _ _ KK.out.2.2.1 _ KK.out.1, HR.out.get _ _ KK.out.2.2.2 _ KK.out.2.1⟩ | exact ⟨HR0.out.get _ _ KK.out.2.2.1 _ KK.out.1, HR0.out.get _ _ KK.out.2.2.2 _ KK.out.2.1⟩)
                (first | (go_at_call 112; refine (HV.out _ HR.out.2.2.1).mono ?_; rintro e w' ⟨rfl, hb'⟩; replace HR := hid (HR.out.step HC.out hb'); clear hb'))
              go_wp2_with fail
              go_roundg (m - (i + 1))
              case measure => rw [HG.out]; omega
              case rel =>
                obtain ⟨e1, e2, e3, _⟩ := H3.out
                refine ⟨i + 1, by go_num, by omega, by omega, rfl, P1 ++ [p] ++ x :: P2, Q, ?_, ?_, by simpa using HR.out⟩
                · have := HPL.out
                  rw [e1] at this
                  simp only [List.length_append, List.length_cons, List.length_nil] at this ⊢; omega
                · have h2 := HPP.out
                  rw [e1] at h2
                  exact Pw.put h2 (Pw.last (List.pairwise_append.1 h2).1 (by have := HX2.out; omega)) e3
          · have hjaz : decide ((j : Int) > (a : Int)) = false := decide_eq_false (by omega)
            have hjaz' : ¬ (a : Int) < (j : Int) := by omega
            have HR : Hid (∃ P2, P = P2 ∧ (∀ p ∈ P2, c x < c p) ∧ Row c G b w A X B T (x :: (P2 ++ Q)) wr.drew) := by
              obtain ⟨P1, P2, e1, e2, e3, e4⟩ := H2.out
              have : P1 = [] := List.eq_nil_of_length_eq_zero (by omega)
              subst this
              exact ⟨P2, e1, e3, e4.step HC.out ((Below.refl _ _).drew)⟩
            clear H2
            go_wp2_with fail
            go_region
            go_wp2_with fail
            go_roundg (m - (i + 1))
            case measure => rw [HG.out]; omega
            case rel =>
              obtain ⟨P2, e1, e3, e4⟩ := HR.out
              subst e1
              refine ⟨i + 1, by go_num, by omega, by omega, rfl, x :: P, Q, ?_, ?_, e4⟩
              · have := HPL.out
                simp only [List.length_cons]; omega
              · exact Pw.put (P := []) HPP.out (fun p hp => by simp at hp) e3
      · go_wp2_with fail
        go_end0
        obtain ⟨P, Q, h1, h2, h3⟩ := H.out
        have h4 := h3.1.len
        have h5 := HX.out
        have : Q = [] := List.eq_nil_of_length_eq_zero (by rw [List.length_append] at h4; omega)
        subst this
        rw [List.append_nil] at h3
        exact ⟨rfl, P, h2, h3⟩
end Od
end Go.Proofs.Ytbamhbfncddieaa

namespace Go.Proofs.Ytbamhbfncddieaa
namespace Od
open Go.RowKit

theorem Pw.put' {c : Int → Int} {P Q : List Int} {x : Int} (h : Pw c (P ++ Q)) (h1 : ∀ p ∈ P, c p ≤ c x) (h2 : ∀ q ∈ Q, c x ≤ c q) : Pw c (P ++ x :: Q) := by
  unfold Pw at h ⊢
  rw [List.pairwise_append] at h ⊢
  refine ⟨h.1, List.pairwise_cons.2 ⟨h2, h.2.1⟩, fun p hp q hq => ?_⟩
  rcases List.mem_cons.1 hq with rfl | hq
  · exact h1 p hp
  · exact h.2.2 p hp q hq

/-- A list, parted at a place of its middle. -/
theorem mid_part (M : List Int) (k : Nat) (h : k < M.length) : ∃ M1 y M2, M = M1 ++ y :: M2 ∧ M1.length = k := ⟨M.take k, M[k], M.drop (k + 1), by rw [← List.drop_eq_getElem_cons h, List.take_append_drop], by rw [List.length_take]; omega⟩

set_option maxHeartbeats 4000000 in
set_option maxRecDepth 100000 in
theorem sym1_any {c : Int → Int} {G : World → Prop} {cb : Array Value} (w : World) (b off a m n cap len : Nat) (hC : Cmp c G b cb) (A : List Int) (x : Int) (Y B : List Int) (T : List Value) (h : Blk w b (A ++ (x :: Y) ++ B) T) (hG : G w) (hA : A.length = off + a) (hm : a + 1 = m) (hY : m + Y.length = n) (hl : n ≤ len) (hlen : len < 1000000000000)
    (hpos : ∀ y ∈ x :: Y, 0 < c y) (hs : Pw c Y) :
    Calls Try.prog 115 #[.slice (some ⟨b, off, none⟩) len cap, .int .i64 a, .int .i64 m, .int .i64 n, .func (.func 112) #[] cb] w fun e w' => e = .returned (.tuple #[]) ∧ ∃ X', Pw c X' ∧ Row c G b w A (x :: Y) B T X' w' := by
  have HC := hid hC
  have HA := hid hA
  have HY := hid hY
  have HP := hid hpos
  have HSo := hid hs
  have HS : Hid (Row c G b w A (x :: Y) B T (x :: Y) w) := ⟨.refl _, h, hG, Alt.refl _ _⟩
  have hm1 : a + 1 ≤ m := by omega
  have hm2 : m ≤ a + 1 := by omega
  have hmn : m ≤ n := by omega
  have e1 : IntKind.i64.wrap ((m : Int) - (a : Int)) = 1 := by rw [IntKind.wrap_i64]; omega
  clear hC hA hY hpos h hG hs hm
  go_enter Try.func115, Try.ntmps115
  go_wp2_with fail
  go_loopg [10, 11] (n - m) (fun g vi vj wr => ∃ i j : Nat, vi = .int .i64 i ∧ vj = .int .i64 j ∧ m ≤ i ∧ i ≤ j ∧ j ≤ n ∧ g = j - i ∧ Hid ((∃ L M R, Y = L ++ M ++ R ∧ m + L.length = i ∧ i + M.length = j ∧ (∀ y ∈ L, c y < c x) ∧ (∀ y ∈ R, c x ≤ c y)) ∧ Row c G b w A (x :: Y) B T (x :: Y) wr))
  case atStart => exact ⟨m, n, rfl, rfl, by omega, by omega, by omega, rfl, ⟨[], Y, [], by simp, rfl, by have := HY.out; omega, fun y hy => by simp at hy, fun y hy => by simp at hy⟩, HS.out⟩
  case round =>
    obtain ⟨i, j, rfl, rfl, hi, hij, hj, hg, H⟩ := hrel
    have HG := hid hg
    clear hg HS e1
    by_cases hlt : i < j
    · obtain ⟨k, hk⟩ : ∃ k, k = (i + j) / 2 := ⟨_, rfl⟩
      have k1 : i ≤ k := by omega
      have k2 : k < j := by omega
      have hkz : ((i : Int) + (j : Int)) / 2 = (k : Int) := by omega
      clear hk
      obtain ⟨L, M1, y, M2, R, H1⟩ : ∃ L M1 y M2 R, Hid (Y = L ++ (M1 ++ y :: M2) ++ R ∧ m + L.length = i ∧ i + (M1 ++ y :: M2).length = j ∧ (∀ y ∈ L, c y < c x) ∧ (∀ y ∈ R, c x ≤ c y) ∧ M1.length = k - i) := by
        obtain ⟨⟨L, M, R, e1, e2, e3, e4, e5⟩, _⟩ := H.out
        obtain ⟨M1, y, M2, rfl, hl⟩ := mid_part M (k - i) (by omega)
        exact ⟨L, M1, y, M2, R, e1, e2, e3, e4, e5, hl⟩
      have HR0 := hid H.out.2
      have HR : Hid (Row c G b w A (x :: Y) B T (x :: Y) wr.drew) := H.out.2.step HC.out ((Below.refl _ _).drew)
      clear H
      have KK : Hid (off + a = A.length + 0 ∧ off + k = A.length + (k - a) ∧ (x :: Y)[0]? = some x ∧ (x :: Y)[k - a]? = some y) := by
        have h1 := HA.out
        obtain ⟨e1, e2, e3, _, _, e6⟩ := H1.out
        refine ⟨by omega, by omega, rfl, ?_⟩
        rw [show k - a = (k - a - 1) + 1 by omega, List.getElem?_cons_succ, e1]
        rw [List.append_assoc, List.getElem?_append_right (by omega), List.append_assoc, List.getElem?_append_right (by omega)]
        rw [show k - a - 1 - L.length - M1.length = 0 by omega]
        rfl
      have SoY : Hid ((∀ z ∈ M1, c z ≤ c y) ∧ (∀ z ∈ M2, c y ≤ c z)) := by
        have h2 := HSo.out
        obtain ⟨e1, _⟩ := H1.out
        rw [e1] at h2
        have h3 := (List.pairwise_append.1 (List.pairwise_append.1 h2).1).2.1
        have h4 := List.pairwise_append.1 h3
        exact ⟨fun z hz => h4.2.2 z hz y (by simp), fun z hz => (List.pairwise_cons.1 h4.2.1).1 z hz⟩
      have z1 : (k : Int) < (len : Int) := by omega
      have z2 : (a : Int) < (len : Int) := by omega
      have HPos : Hid (0 < c y ∧ 0 < c x) := ⟨HR.out.pos HP.out y (List.mem_of_getElem? KK.out.2.2.2), HR.out.pos HP.out x (List.mem_of_getElem? KK.out.2.2.1)⟩
      by_cases hcx : c y < c x
      · have hv : cmpI (c y) (c x) < 0 := (cmpI_lt _ _).2 hcx
        have HV := hid (fun W (h : G W) => HC.out.call W y x HPos.out.1 HPos.out.2 h)
        have HX2 := hid hcx
        generalize cmpI (c y) (c x) = v at *
        clear hcx
        go_wp2_with fail
        go_region_held3 (fun w' => w'.cell? ⟨b, off + a, none⟩ = some (.int .i32 x) ∧ w'.cell? ⟨b, off + k, none⟩ = some (.int .i32 y))
          (first | exact ⟨HR.out.get _ _ KK.out.2.2.1 _ KK.out.1, HR.out.get _ _ KK.out.2.2.2 _ KK.out.2.1⟩ | exact ⟨HR0.out.get _ _ KK.out.2.2.1 _ KK.out.1, HR0.out.get _ _ KK.out.2.2.2 _ KK.out.2.1⟩)
          (first | (go_at_call 112; refine (HV.out _ HR.out.2.2.1).mono ?_; rintro e w' ⟨rfl, hb'⟩; replace HR := hid (HR.out.step HC.out hb'); clear hb'))
        go_wp2_with fail
        go_roundg (j - (k + 1))
        case measure => rw [HG.out]; omega
        case rel =>
          obtain ⟨e1, e2, e3, e4, e5, e6⟩ := H1.out
          refine ⟨k + 1, j, by go_num, rfl, by omega, by omega, hj, rfl, ⟨L ++ M1 ++ [y], M2, R, by rw [e1]; simp, ?_, ?_, ?_, e5⟩, HR.out⟩
          · simp only [List.length_append, List.length_cons, List.length_nil]; omega
          · simp only [List.length_append, List.length_cons] at e3; omega
          · intro z hz
            simp only [List.mem_append, List.mem_cons, List.not_mem_nil, or_false] at hz
            rcases hz with (hz | hz) | rfl
            · exact e4 z hz
            · have := SoY.out.1 z hz; have := HX2.out; omega
            · exact HX2.out
      · have hv : ¬ cmpI (c y) (c x) < 0 := fun h => hcx ((cmpI_lt _ _).1 h)
        have HV := hid (fun W (h : G W) => HC.out.call W y x HPos.out.1 HPos.out.2 h)
        have HX2 := hid hcx
        generalize cmpI (c y) (c x) = v at *
        clear hcx
        go_wp2_with fail
        go_region_held3 (fun w' => w'.cell? ⟨b, off + a, none⟩ = some (.int .i32 x) ∧ w'.cell? ⟨b, off + k, none⟩ = some (.int .i32 y))
          (first | exact ⟨HR.out.get _ _ KK.out.2.2.1 _ KK.out.1, HR.out.get _ _ KK.out.2.2.2 _ KK.out.2.1⟩ | exact ⟨HR0.out.get _ _ KK.out.2.2.1 _ KK.out.1, HR0.out.get _ _ KK.out.2.2.2 _ KK.out.2.1⟩)
          (first | (go_at_call 112; refine (HV.out _ HR.out.2.2.1).mono ?_; rintro e w' ⟨rfl, hb'⟩; replace HR := hid (HR.out.step HC.out hb'); clear hb'))
        go_wp2_with fail
        go_roundg (k - i)
        case measure => rw [HG.out]; omega
        case rel =>
          obtain ⟨e1, e2, e3, e4, e5, e6⟩ := H1.out
          refine ⟨i, k, rfl, rfl, hi, k1, by omega, rfl, ⟨L, M1, y :: M2 ++ R, by rw [e1]; simp, e2, by omega, e4, ?_⟩, HR.out⟩
          intro z hz
          rcases List.mem_append.1 hz with hz | hz
          · rcases List.mem_cons.1 hz with rfl | hz
            · have := HX2.out; omega
            · have := SoY.out.2 z hz; have := HX2.out; omega
          · exact e5 z hz
    · -- x goes behind those that are less
      obtain ⟨L, R, H1⟩ : ∃ L R, Hid (Y = L ++ R ∧ m + L.length = i ∧ (∀ y ∈ L, c y < c x) ∧ (∀ y ∈ R, c x ≤ c y)) := by
        obtain ⟨⟨L, M, R, e1, e2, e3, e4, e5⟩, _⟩ := H.out
        have : M = [] := List.eq_nil_of_length_eq_zero (by omega)
        subst this
        exact ⟨L, R, by simpa using e1, e2, e4, e5⟩
      have HR0 : Hid (Row c G b w A (x :: Y) B T (x :: (L ++ R)) wr) := by have := H.out.2; rw [H1.out.1] at this ⊢; exact this
      clear H
      have hin : i ≤ n := by omega
      go_wp2_with fail
      go_loopg [13] (i - (a + 1)) (fun g2 vk wr => ∃ k : Nat, vk = .int .i64 k ∧ a ≤ k ∧ k + 1 ≤ i ∧ g2 = i - (k + 1) ∧ Hid (∃ L1 L2, L = L1 ++ L2 ∧ a + L1.length = k ∧ Row c G b w A (x :: Y) B T (L1 ++ x :: (L2 ++ R)) wr))
      case atStart => exact ⟨a, rfl, Nat.le_refl _, by omega, rfl, [], L, rfl, rfl, HR0.out⟩
      case round =>
        obtain ⟨k, rfl, hak, hki, hg2, H2⟩ := hrel
        have HG2 := hid hg2
        clear hg2 HR0
        have e3 : IntKind.i64.wrap ((i : Int) - 1) = ((i - 1 : Nat) : Int) := by rw [IntKind.wrap_i64]; omega
        by_cases hk2 : k + 1 < i
        · obtain ⟨L1, y, L2, H3⟩ : ∃ L1 y L2, Hid (L = L1 ++ y :: L2 ∧ a + L1.length = k ∧ Row c G b w A (x :: Y) B T (L1 ++ x :: y :: (L2 ++ R)) wr) := by
            obtain ⟨L1, L2, e1, e2, e3⟩ := H2.out
            match L2 with
            | [] => have := H1.out.2.1; rw [e1] at this; simp at this; omega
            | y :: L2 => exact ⟨L1, y, L2, e1, e2, e3⟩
          clear H2
          have HY2 : Hid (0 < c y ∧ c y < c x) := by
            refine ⟨HP.out y ?_, H1.out.2.2.1 y (by rw [H3.out.1]; simp)⟩
            rw [H1.out.1, H3.out.1]; simp
          have q1 : off + k = A.length + L1.length := by have := HA.out; have := H3.out.2.1; omega
          have HSW := hid (H3.out.2.2.swap HC.out HY2.out.1 HY2.out.2 (off + k) (off + (k + 1)) q1 rfl)
          have c1 := H3.out.2.2.get L1.length x (by simp) _ q1
          have c2 := H3.out.2.2.get (L1.length + 1) y (by simp) (off + (k + 1)) (by omega)
          have f1 := H3.out.2.2.frozen (off + k)
          have f2 := H3.out.2.2.frozen (off + (k + 1))
          clear q1
          have z1 : (k : Int) + 1 < (len : Int) := by omega
          have z3 : (k : Int) < (len : Int) := by omega
          have z2 : ((k : Int) + 1).toNat = k + 1 := by omega
          have z4 : (k : Int) < ((i - 1 : Nat) : Int) := by omega
          go_wp2_with fail
          go_region
          go_wp2_with fail
          go_roundg (i - (k + 1 + 1))
          case measure => rw [HG2.out]; omega
          case rel =>
            obtain ⟨e1, e2, _⟩ := H3.out
            exact ⟨k + 1, by go_num, by omega, by omega, rfl, L1 ++ [y], L2, by rw [e1]; simp, by simp; omega, by simpa using HSW.out.1⟩
        · have z4 : ¬ (k : Int) < ((i - 1 : Nat) : Int) := by omega
          go_wp2_with fail
          (try simp only [Exit.inBlock, Exit.then])
          refine bodyPost_ret (results_none rfl _ _ _) rfl ?_
          obtain ⟨L1, L2, e1, e2, e3⟩ := H2.out
          obtain ⟨f1, f2, f3, f4⟩ := H1.out
          have : L2 = [] := by
            rw [e1, List.length_append] at f2
            exact List.eq_nil_of_length_eq_zero (by omega)
          subst this
          rw [List.append_nil] at e1
          subst e1
          refine ⟨rfl, L ++ x :: R, Pw.put' ?_ (fun p hp => Int.le_of_lt (f3 p hp)) f4, by simpa using e3⟩
          rw [← f1]; exact HSo.out

set_option maxHeartbeats 4000000 in
set_option maxRecDepth 100000 in
theorem sym2_any {c : Int → Int} {G : World → Prop} {cb : Array Value} (w : World) (b off a m n cap len : Nat) (hC : Cmp c G b cb) (A : List Int) (x : Int) (Y B : List Int) (T : List Value) (h : Blk w b (A ++ (Y ++ [x]) ++ B) T) (hG : G w) (hA : A.length = off + a) (hm : m + 1 = n) (hY : a + Y.length = m) (ham : a + 1 < m) (hl : n ≤ len) (hlen : len < 1000000000000)
    (hpos : ∀ y ∈ Y ++ [x], 0 < c y) (hs : Pw c Y) :
    Calls Try.prog 115 #[.slice (some ⟨b, off, none⟩) len cap, .int .i64 a, .int .i64 m, .int .i64 n, .func (.func 112) #[] cb] w fun e w' => e = .returned (.tuple #[]) ∧ ∃ X', Pw c X' ∧ Row c G b w A (Y ++ [x]) B T X' w' := by
  have HC := hid hC
  have HA := hid hA
  have HY := hid hY
  have HP := hid hpos
  have HSo := hid hs
  have HS : Hid (Row c G b w A (Y ++ [x]) B T (Y ++ [x]) w) := ⟨.refl _, h, hG, Alt.refl _ _⟩
  have hm1 : m + 1 ≤ n := by omega
  have hm2 : n ≤ m + 1 := by omega
  have e1 : IntKind.i64.wrap ((n : Int) - (m : Int)) = 1 := by rw [IntKind.wrap_i64]; omega
  have e2 : IntKind.i64.wrap ((m : Int) - (a : Int)) = ((m - a : Nat) : Int) := by rw [IntKind.wrap_i64]; omega
  have e3 : ¬ ((m - a : Nat) : Int) = 1 := by omega
  have e4 : (((m - a : Nat) : Int) == 1) = false := by simpa using e3
  clear hC hA hY hpos h hG hs hm
  go_enter Try.func115, Try.ntmps115
  go_wp2_with fail
  go_loopg [14, 15] (m - a) (fun g vi vj wr => ∃ i j : Nat, vi = .int .i64 i ∧ vj = .int .i64 j ∧ a ≤ i ∧ i ≤ j ∧ j ≤ m ∧ g = j - i ∧ Hid ((∃ L M R, Y = L ++ M ++ R ∧ a + L.length = i ∧ i + M.length = j ∧ (∀ y ∈ L, c y ≤ c x) ∧ (∀ y ∈ R, c x < c y)) ∧ Row c G b w A (Y ++ [x]) B T (Y ++ [x]) wr))
  case atStart => exact ⟨a, m, rfl, rfl, by omega, by omega, by omega, rfl, ⟨[], Y, [], by simp, rfl, by have := HY.out; omega, fun y hy => by simp at hy, fun y hy => by simp at hy⟩, HS.out⟩
  case round =>
    obtain ⟨i, j, rfl, rfl, hi, hij, hj, hg, H⟩ := hrel
    have HG := hid hg
    clear hg HS e1 e2 e3 e4
    by_cases hlt : i < j
    · obtain ⟨k, hk⟩ : ∃ k, k = (i + j) / 2 := ⟨_, rfl⟩
      have k1 : i ≤ k := by omega
      have k2 : k < j := by omega
      have hkz : ((i : Int) + (j : Int)) / 2 = (k : Int) := by omega
      clear hk
      obtain ⟨L, M1, y, M2, R, H1⟩ : ∃ L M1 y M2 R, Hid (Y = L ++ (M1 ++ y :: M2) ++ R ∧ a + L.length = i ∧ i + (M1 ++ y :: M2).length = j ∧ (∀ y ∈ L, c y ≤ c x) ∧ (∀ y ∈ R, c x < c y) ∧ M1.length = k - i) := by
        obtain ⟨⟨L, M, R, e1, e2, e3, e4, e5⟩, _⟩ := H.out
        obtain ⟨M1, y, M2, rfl, hl⟩ := mid_part M (k - i) (by omega)
        exact ⟨L, M1, y, M2, R, e1, e2, e3, e4, e5, hl⟩
      have HR0 := hid H.out.2
      have HR : Hid (Row c G b w A (Y ++ [x]) B T (Y ++ [x]) wr.drew) := H.out.2.step HC.out ((Below.refl _ _).drew)
      clear H
      have KK : Hid (off + m = A.length + Y.length ∧ off + k = A.length + (k - a) ∧ (Y ++ [x])[Y.length]? = some x ∧ (Y ++ [x])[k - a]? = some y) := by
        have h1 := HA.out
        have h2 := HY.out
        obtain ⟨e1, e2, e3, _, _, e6⟩ := H1.out
        refine ⟨by omega, by omega, by simp, ?_⟩
        rw [List.getElem?_append_left (by omega), e1]
        rw [List.append_assoc, List.getElem?_append_right (by omega), List.append_assoc, List.getElem?_append_right (by omega)]
        rw [show k - a - L.length - M1.length = 0 by omega]
        rfl
      have SoY : Hid ((∀ z ∈ M1, c z ≤ c y) ∧ (∀ z ∈ M2, c y ≤ c z)) := by
        have h2 := HSo.out
        obtain ⟨e1, _⟩ := H1.out
        rw [e1] at h2
        have h3 := (List.pairwise_append.1 (List.pairwise_append.1 h2).1).2.1
        have h4 := List.pairwise_append.1 h3
        exact ⟨fun z hz => h4.2.2 z hz y (by simp), fun z hz => (List.pairwise_cons.1 h4.2.1).1 z hz⟩
      have z1 : (k : Int) < (len : Int) := by omega
      have z2 : (m : Int) < (len : Int) := by omega
      have HPos : Hid (0 < c x ∧ 0 < c y) := ⟨HR.out.pos HP.out x (List.mem_of_getElem? KK.out.2.2.1), HR.out.pos HP.out y (List.mem_of_getElem? KK.out.2.2.2)⟩
      by_cases hcx : c x < c y
      · have hv : cmpI (c x) (c y) < 0 := (cmpI_lt _ _).2 hcx
        have HV := hid (fun W (h : G W) => HC.out.call W x y HPos.out.1 HPos.out.2 h)
        have HX2 := hid hcx
        generalize cmpI (c x) (c y) = v at *
        clear hcx
        go_wp2_with fail
        go_region_held3 (fun w' => w'.cell? ⟨b, off + m, none⟩ = some (.int .i32 x) ∧ w'.cell? ⟨b, off + k, none⟩ = some (.int .i32 y))
          (first | exact ⟨HR.out.get _ _ KK.out.2.2.1 _ KK.out.1, HR.out.get _ _ KK.out.2.2.2 _ KK.out.2.1⟩ | exact ⟨HR0.out.get _ _ KK.out.2.2.1 _ KK.out.1, HR0.out.get _ _ KK.out.2.2.2 _ KK.out.2.1⟩)
          (first | (go_at_call 112; refine (HV.out _ HR.out.2.2.1).mono ?_; rintro e w' ⟨rfl, hb'⟩; replace HR := hid (HR.out.step HC.out hb'); clear hb'))
        go_wp2_with fail
        go_roundg (k - i)
        case measure => rw [HG.out]; omega
        case rel =>
          obtain ⟨e1, e2, e3, e4, e5, e6⟩ := H1.out
          refine ⟨i, k, rfl, rfl, hi, k1, by omega, rfl, ⟨L, M1, y :: M2 ++ R, by rw [e1]; simp, e2, by omega, e4, ?_⟩, HR.out⟩
          intro z hz
          rcases List.mem_append.1 hz with hz | hz
          · rcases List.mem_cons.1 hz with rfl | hz
            · exact HX2.out
            · have := SoY.out.2 z hz; have := HX2.out; omega
          · exact e5 z hz
      · have hv : ¬ cmpI (c x) (c y) < 0 := fun h => hcx ((cmpI_lt _ _).1 h)
        have HV := hid (fun W (h : G W) => HC.out.call W x y HPos.out.1 HPos.out.2 h)
        have HX2 := hid hcx
        generalize cmpI (c x) (c y) = v at *
        clear hcx
        have hv2 : decide (v < 0) = false := decide_eq_false hv
        go_wp2_with fail
        go_region_held3 (fun w' => w'.cell? ⟨b, off + m, none⟩ = some (.int .i32 x) ∧ w'.cell? ⟨b, off + k, none⟩ = some (.int .i32 y))
          (first | exact ⟨HR.out.get _ _ KK.out.2.2.1 _ KK.out.1, HR.out.get _ _ KK.out.2.2.2 _ KK.out.2.1⟩ | exact ⟨HR0.out.get _ _ KK.out.2.2.1 _ KK.out.1, HR0.out.get _ _ KK.out.2.2.2 _ KK.out.2.1⟩)
          (first | (go_at_call 112; refine (HV.out _ HR.out.2.2.1).mono ?_; rintro e w' ⟨rfl, hb'⟩; replace HR := hid (HR.out.step HC.out hb'); clear hb'))
        go_wp2_with fail
        go_roundg (j - (k + 1))
        case measure => rw [HG.out]; omega
        case rel =>
          obtain ⟨e1, e2, e3, e4, e5, e6⟩ := H1.out
          refine ⟨k + 1, j, by go_num, rfl, by omega, by omega, hj, rfl, ⟨L ++ M1 ++ [y], M2, R, by rw [e1]; simp, ?_, ?_, ?_, e5⟩, HR.out⟩
          · simp only [List.length_append, List.length_cons, List.length_nil]; omega
          · simp only [List.length_append, List.length_cons] at e3; omega
          · intro z hz
            simp only [List.mem_append, List.mem_cons, List.not_mem_nil, or_false] at hz
            rcases hz with (hz | hz) | rfl
            · exact e4 z hz
            · have := SoY.out.1 z hz; have := HX2.out; omega
            · have := HX2.out; omega
    · -- x goes ahead of those that are greater
      obtain ⟨L, R, H1⟩ : ∃ L R, Hid (Y = L ++ R ∧ a + L.length = i ∧ (∀ y ∈ L, c y ≤ c x) ∧ (∀ y ∈ R, c x < c y)) := by
        obtain ⟨⟨L, M, R, e1, e2, e3, e4, e5⟩, _⟩ := H.out
        have : M = [] := List.eq_nil_of_length_eq_zero (by omega)
        subst this
        exact ⟨L, R, by simpa using e1, e2, e4, e5⟩
      have HR0 : Hid (Row c G b w A (Y ++ [x]) B T (L ++ R ++ [x]) wr) := by have := H.out.2; rw [H1.out.1] at this ⊢; exact this
      clear H
      have hin : i ≤ m := by omega
      go_wp2_with fail
      go_loopg [17] (m - i) (fun g2 vk wr => ∃ k : Nat, vk = .int .i64 k ∧ i ≤ k ∧ k ≤ m ∧ g2 = k - i ∧ Hid (∃ R1 R2, R = R1 ++ R2 ∧ i + R1.length = k ∧ Row c G b w A (Y ++ [x]) B T (L ++ R1 ++ x :: R2) wr))
      case atStart => exact ⟨m, rfl, by omega, Nat.le_refl _, rfl, R, [], by simp, by have h1 := HY.out; rw [H1.out.1, List.length_append] at h1; have := H1.out.2.1; omega, by simpa using HR0.out⟩
      case round =>
        obtain ⟨k, rfl, hik, hkm, hg2, H2⟩ := hrel
        have HG2 := hid hg2
        clear hg2 HR0
        by_cases hk2 : i < k
        · obtain ⟨kp, rfl⟩ : ∃ kp, k = kp + 1 := ⟨k - 1, by omega⟩
          obtain ⟨R1, y, R2, H3⟩ : ∃ R1 y R2, Hid (R = R1 ++ y :: R2 ∧ i + R1.length = kp ∧ Row c G b w A (Y ++ [x]) B T ((L ++ R1) ++ y :: x :: R2) wr) := by
            obtain ⟨R1, R2, e1, e2, e3⟩ := H2.out
            have hne : R1 ≠ [] := by intro e; rw [e] at e2; simp at e2; omega
            refine ⟨R1.dropLast, R1.getLast hne, R2, ?_, by rw [List.length_dropLast]; omega, ?_⟩
            · rw [e1]; conv => lhs; rw [← List.dropLast_concat_getLast hne]
              simp
            · have : L ++ R1 ++ x :: R2 = L ++ R1.dropLast ++ R1.getLast hne :: x :: R2 := by
                conv => lhs; rw [← List.dropLast_concat_getLast hne]
                simp
              rw [this] at e3; exact e3
          clear H2
          have HY2 : Hid (0 < c x ∧ c x < c y) := by
            refine ⟨HP.out x (by simp), H1.out.2.2.2 y (by rw [H3.out.1]; simp)⟩
          have q1 : off + kp = A.length + (L ++ R1).length := by have := HA.out; have := H3.out.2.1; have := H1.out.2.1; rw [List.length_append]; omega
          have HSW := hid (H3.out.2.2.swap HC.out HY2.out.1 HY2.out.2 (off + kp) (off + (kp + 1)) q1 rfl)
          have c1 := H3.out.2.2.get (L ++ R1).length y (by simp) _ q1
          have c2 := H3.out.2.2.get ((L ++ R1).length + 1) x (by rw [List.getElem?_append_right (by omega), show (L ++ R1).length + 1 - (L ++ R1).length = 1 by omega]; rfl) (off + (kp + 1)) (by omega)
          have f1 := H3.out.2.2.frozen (off + kp)
          have f2 := H3.out.2.2.frozen (off + (kp + 1))
          clear q1
          have jz : (kp : Int) + 1 < (len : Int) := by omega
          have jz1 : (kp : Int) < (len : Int) := by omega
          have hwp : IntKind.i64.wrap (kp : Int) = (kp : Int) := by rw [IntKind.wrap_i64]; omega
          have p0 : (0 : Int) ≤ (kp : Int) + 1 := by omega
          have e0 : ((kp : Int) + 1).toNat = kp + 1 := by omega
          have hjaz' : (i : Int) < (kp : Int) + 1 := by omega
          go_wp2_with fail
          go_region
          go_wp2_with fail
          go_roundg (kp - i)
          case measure => rw [HG2.out]; omega
          case rel =>
            obtain ⟨e1, e2, _⟩ := H3.out
            exact ⟨kp, by first | rfl | go_num | (congr 1; omega), by omega, by omega, rfl, R1, y :: R2, e1, e2, by first | exact HSW.out.2 | exact HSW.out.1⟩
        · have z4 : ¬ (i : Int) < (k : Int) := by omega
          go_wp2_with fail
          (try simp only [Exit.inBlock, Exit.then])
          refine bodyPost_ret (results_none rfl _ _ _) rfl ?_
          obtain ⟨R1, R2, e1, e2, e3⟩ := H2.out
          obtain ⟨f1, f2, f3, f4⟩ := H1.out
          have : R1 = [] := List.eq_nil_of_length_eq_zero (by omega)
          subst this
          rw [List.nil_append] at e1
          subst e1
          refine ⟨rfl, L ++ x :: R, Pw.put' ?_ f3 (fun p hp => Int.le_of_lt (f4 p hp)), by simpa using e3⟩
          rw [← f1]; exact HSo.out
end Od
end Go.Proofs.Ytbamhbfncddieaa
