import Derived.Test.YtbamhbfncddieaaPr4
namespace Go.Proofs.Ytbamhbfncddieaa.Pr
open Go.RowKit Go.Lib

/-- What is never put together, but for singles. -/
def exB (r : Int) : Bool := r == 836 || (decide (2392 ≤ r) && decide (r ≤ 2399))
/-- A row's parts: one, if the second is 0. -/
def valP (x : R3) : Pt := (x.2.1, x.2.2, if x.2.2 = 0 then 1 else 2)
/-- Is a row one that isn't put together? -/
def skipB (x : R3) : Bool := x.2.2 == 0 || exB x.1
def dnF (L : List R3) : Int → Option Pt := L.foldl (fun f x k => if k = x.1 then some (valP x) else f k) (fun _ => none)
def upF (L : List R3) : Int × Int → Option Int := L.foldl (fun f x k => if skipB x = true then f k else if k = (x.2.1, x.2.2) then some x.1 else f k) (fun _ => none)
def scF (L : List R3) : Int → Option Int := L.foldl (fun f x k => if skipB x = true then f k else if k = x.2.2 then some ((f x.2.2).getD 0 + 1) else f k) (fun _ => none)

theorem dn_snoc (L : List R3) (x : R3) : dnF (L ++ [x]) = fun k => if k = x.1 then some (valP x) else dnF L k := by unfold dnF; rw [List.foldl_append]; rfl
theorem up_snoc (L : List R3) (x : R3) : upF (L ++ [x]) = fun k => if skipB x = true then upF L k else if k = (x.2.1, x.2.2) then some x.1 else upF L k := by unfold upF; rw [List.foldl_append]; rfl
theorem sc_snoc (L : List R3) (x : R3) : scF (L ++ [x]) = fun k => if skipB x = true then scF L k else if k = x.2.2 then some ((scF L x.2.2).getD 0 + 1) else scF L k := by unfold scF; rw [List.foldl_append]; rfl

theorem snoc_ind {P : List R3 → Prop} (h0 : P []) (hs : ∀ L x, P L → P (L ++ [x])) (L : List R3) : P L := by
  have : ∀ (n : Nat) (L : List R3), L.length = n → P L := by
    intro n
    induction n with
    | zero => intro L hL; rw [List.eq_nil_of_length_eq_zero hL]; exact h0
    | succ n ih =>
      intro L hL
      obtain ⟨M, x, rfl⟩ : ∃ M x, L = M ++ [x] := ⟨L.dropLast, L.getLast (by intro e; rw [e] at hL; simp at hL), (List.dropLast_concat_getLast _).symm⟩
      exact hs M x (ih M (by simpa using hL))
  exact this _ L rfl
theorem sc_bd (k : Int) (L : List R3) : 0 ≤ (scF L k).getD 0 ∧ (scF L k).getD 0 ≤ L.length := by
  have : ∀ k, 0 ≤ (scF L k).getD 0 ∧ (scF L k).getD 0 ≤ L.length := by
    refine snoc_ind (P := fun L => ∀ k, 0 ≤ (scF L k).getD 0 ∧ (scF L k).getD 0 ≤ L.length) (fun k => by simp [scF]) (fun L x ih k => ?_) L
    rw [sc_snoc, List.length_append]
    have h1 := ih k
    have h2 := ih x.2.2
    simp only [List.length_cons, List.length_nil]
    split
    · omega
    · split
      · simp only [Option.getD_some]; omega
      · omega
  exact this k

/-- A world that has turned in three blocks alone. -/
structure Kp (d u s : Nat) (w w' : World) : Prop where
  os : w'.os = w.os
  tape : w'.tape = w.tape
  output : w'.output = w.output
  size : w.heap.size ≤ w'.heap.size
  block : ∀ k, k < w.heap.size → k ≠ d → k ≠ u → k ≠ s → w'.heap[k]? = w.heap[k]?
theorem Kp.refl (d u s : Nat) (w : World) : Kp d u s w w := ⟨rfl, rfl, rfl, Nat.le_refl _, fun _ _ _ _ _ => rfl⟩
theorem Kp.trans {d u s : Nat} {a b c : World} (h : Kp d u s a b) (h' : Kp d u s b c) : Kp d u s a c :=
  ⟨h'.os.trans h.os, h'.tape.trans h.tape, h'.output.trans h.output, Nat.le_trans h.size h'.size, fun k hk h1 h2 h3 => (h'.block k (Nat.lt_of_lt_of_le hk h.size) h1 h2 h3).trans (h.block k hk h1 h2 h3)⟩
theorem Kp.grown {d u s : Nat} {a b : World} {r : Nat} (hg : a.grownBy b (some r)) (hr : r = d ∨ r = u ∨ r = s) : Kp d u s a b :=
  ⟨hg.os, hg.tape, hg.output, hg.size, fun k hk h1 h2 h3 => hg.block k hk (fun e => by have := Option.some.inj e; omega)⟩
theorem Kp.of_below {d u s : Nat} {a b : World} (h : Below a.heap.size a b) : Kp d u s a b := ⟨h.os, h.tape, h.output, h.size, fun k hk _ _ _ => h.block k hk⟩
theorem Kp.below {d u s B : Nat} {a b : World} (h : Kp d u s a b) (hB : B ≤ a.heap.size) (h1 : B ≤ d) (h2 : B ≤ u) (h3 : B ≤ s) : Below B a b :=
  ⟨h.os, h.tape, h.output, h.size, fun k hk => h.block k (by omega) (by omega) (by omega) (by omega)⟩

/-- The pairs' maps hold these rows. -/
structure PW (w : World) (p d u s : Nat) (L : List R3) (sz : Nat) : Prop where
  blk : w.heap[p]? = some (.cells #[.map (some d), .map (some u), .map (some s)] 67)
  dn : ∃ n, n ≤ L.length ∧ DownW w d n (dnF L) sz
  up : ∃ n, n ≤ L.length ∧ UpW w u n (upF L)
  sc : ∃ n, n ≤ L.length ∧ SecW w s n (scF L)
  ne : (d ≠ u ∧ d ≠ s ∧ u ≠ s) ∧ p ≠ d ∧ p ≠ u ∧ p ≠ s

theorem PW.step {w w' : World} {p d u s sz : Nat} {L : List R3} (h : PW w p d u s L sz) (hb : Below w.heap.size w w') : PW w' p d u s L sz := by
  obtain ⟨n1, l1, h1⟩ := h.dn
  obtain ⟨n2, l2, h2⟩ := h.up
  obtain ⟨n3, l3, h3⟩ := h.sc
  exact ⟨(hb.block p (Array.getElem?_eq_some_iff.1 h.blk).1).trans h.blk, ⟨n1, l1, h1.block (hb.block d h1.lt)⟩, ⟨n2, l2, h2.block (hb.block u h2.lt)⟩, ⟨n3, l3, h3.block (hb.block s h3.lt)⟩, h.ne⟩
theorem PW.cells {w : World} {p d u s sz : Nat} {L : List R3} (h : PW w p d u s L sz) : w.cell? ⟨p, 0, none⟩ = some (.map (some d)) ∧ w.cell? ⟨p, 1, none⟩ = some (.map (some u)) ∧ w.cell? ⟨p, 2, none⟩ = some (.map (some s)) := by
  have := cells3 h.blk
  exact ⟨this.1, this.2.1, this.2.2.1⟩

theorem run_fieldP (x : Pt) (w : World) : (Instr.field 72 (.agg #[.int .i32 x.1, .int .i32 x.2.1, .int .i64 x.2.2]) 2).run Try.prog w = .ok (.int .i64 x.2.2) w := by
  simp [Instr.field, run_underlying Try.underlying72, asAgg, part, isAgg, run_underlying Try.underlying3]

/-- Excluded, as the map tells it. -/
def exF (x : Option Pt) (r : Int) : Bool := (x.getD (0, 0, 0)).2.2 == 1 || exB r

set_option maxHeartbeats 1000000 in
theorem ex_any' {w : World} {p d n sz : Nat} {f : Int → Option Pt} (c0 : w.cell? ⟨p, 0, none⟩ = some (.map (some d))) (hd : DownW w d n f sz) {r : Int} (hr : I32 r) :
    Calls Try.prog 61 #[.pointer (some ⟨p, 0, none⟩), .int .i32 r] w fun e w' => e = .returned (.bool (exF (f r) r)) ∧ w' = w := by
  have hlk := hd.look hr
  have E : Hid (exF (f r) r = (((f r).getD (0, 0, 0)).2.2 == 1 || exB r)) := rfl
  clear hd
  generalize (f r).getD (0, 0, 0) = x at *
  generalize f r = fr at *
  have hfd := run_fieldP x
  unfold pv at hlk
  obtain ⟨x1, x2, x3⟩ := x
  simp only at hfd hlk
  by_cases h1 : x3 = 1
  · have E2 : Hid (exF fr r = true) := by show _ = _; rw [E.out, h1]; rfl
    subst h1
    go_enter Try.func61, Try.ntmps61
    go_wp2
    go_ret
    exact ⟨ret_bool E2.out.symm, rfl⟩
  · have h1' : (x3 == 1) = false := by simpa using h1
    have E2 : Hid (exF fr r = exB r) := by show _ = _; rw [E.out]; show (x3 == 1 || exB r) = exB r; rw [h1']; rfl
    by_cases h2 : r = 836
    · have E3 : Hid (exF fr r = true) := by show _ = _; rw [E2.out, h2]; rfl
      subst h2
      go_enter Try.func61, Try.ntmps61
      go_wp2
      go_ret
      exact ⟨ret_bool E3.out.symm, rfl⟩
    · have h2' : (r == 836) = false := by simpa using h2
      have E3 : Hid (exF fr r = (decide (2392 ≤ r) && decide (r ≤ 2399))) := by show _ = _; rw [E2.out, exB, h2']; rfl
      by_cases h3 : 2392 ≤ r
      · by_cases h4 : r ≤ 2399
        · have E4 : Hid (exF fr r = true) := by show _ = _; rw [E3.out, decide_eq_true h3, decide_eq_true h4]; rfl
          go_enter Try.func61, Try.ntmps61
          go_wp2
          go_ret
          exact ⟨ret_bool E4.out.symm, rfl⟩
        · have E4 : Hid (exF fr r = false) := by show _ = _; rw [E3.out, decide_eq_false h4, Bool.and_false]
          go_enter Try.func61, Try.ntmps61
          go_wp2
          go_ret
          exact ⟨ret_bool E4.out.symm, rfl⟩
      · have E4 : Hid (exF fr r = false) := by show _ = _; rw [E3.out, decide_eq_false h3, Bool.false_and]
        go_enter Try.func61, Try.ntmps61
        go_wp2
        go_ret
        exact ⟨ret_bool E4.out.symm, rfl⟩

theorem ex_any {w : World} {p d u s sz : Nat} {L : List R3} (h : PW w p d u s L sz) {r : Int} (hr : I32 r) :
    Calls Try.prog 61 #[.pointer (some ⟨p, 0, none⟩), .int .i32 r] w fun e w' => e = .returned (.bool (exF (dnF L r) r)) ∧ w' = w := by
  obtain ⟨n, _, hd⟩ := h.dn
  exact ex_any' h.cells.1 hd hr
end Go.Proofs.Ytbamhbfncddieaa.Pr
