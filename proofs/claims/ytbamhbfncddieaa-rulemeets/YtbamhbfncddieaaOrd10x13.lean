import Derived.Test.YtbamhbfncddieaaOrd9
import Derived.Test.YtbamhbfncddieaaRng
namespace Go.Proofs.Ytbamhbfncddieaa
namespace Od
open Go.RowKit

/-- Cells, and all that lies below N, stand as they stood. -/
structure Kc (N : Nat) (A B : World) : Prop where
  os : B.os = A.os
  tape : B.tape = A.tape
  output : B.output = A.output
  size : A.heap.size ≤ B.heap.size
  same : ∀ k o, A.heap[k]? = some o → (k < N ∨ o.isCells = true) → B.heap[k]? = some o
theorem Kc.refl (N : Nat) (A : World) : Kc N A A := ⟨rfl, rfl, rfl, Nat.le_refl _, fun _ _ h _ => h⟩
theorem Kc.of_below {N : Nat} {A B : World} (h : Below A.heap.size A B) : Kc N A B := ⟨h.os, h.tape, h.output, h.size, fun k _ hk _ => (h.block k (Array.getElem?_eq_some_iff.1 hk).1).trans hk⟩
theorem Kc.grown {N : Nat} {A B : World} {row : Option Nat} (hg : A.grownBy B row) (hr : ∀ r, row = some r → N ≤ r ∧ ∃ o : Obj, A.heap[r]? = some o ∧ o.isCells = false) : Kc N A B :=
  ⟨hg.os, hg.tape, hg.output, hg.size, fun k o hk ho => by
    refine (hg.block k (Array.getElem?_eq_some_iff.1 hk).1 (fun e => ?_)).trans hk
    obtain ⟨h1, o', h2, h3⟩ := hr k e.symm
    rw [hk] at h2
    cases h2
    rcases ho with ho | ho
    · omega
    · rw [h3] at ho; cases ho⟩
theorem Kc.below {n0 N : Nat} {w0 A B : World} (h : Kc N A B) (hb : Below n0 w0 A) (hn : n0 ≤ N) (hw : n0 ≤ w0.heap.size) : Below n0 w0 B :=
  hb.trans ⟨h.os, h.tape, h.output, h.size, fun k hk => by
    have hlt : k < A.heap.size := Nat.lt_of_lt_of_le hk (Nat.le_trans hw hb.size)
    have e := Array.getElem?_eq_getElem hlt
    rw [e]
    exact h.same k _ e (.inl (by omega))⟩
theorem Kc.blk {N b : Nat} {A B : World} {R : List Int} {T : List Value} (h : Kc N A B) (hb : Blk A b R T) : Blk B b R T := h.same b _ hb (.inr rfl)
/-- A block of cells. -/
def Bx (w : World) (b : Nat) (v : Value) (t : TypeId) : Prop := w.heap[b]? = some (.cells #[v] t)
theorem Kc.bx {N b : Nat} {A B : World} {v : Value} {t : TypeId} (h : Kc N A B) (hb : Bx A b v t) : Bx B b v t := h.same b _ hb (.inr rfl)
theorem Bx.cell {w : World} {b : Nat} {v : Value} {t : TypeId} (h : Bx w b v t) : w.cell? ⟨b, 0, none⟩ = some v := by
  have h' : w.heap[b]? = _ := h
  simp [World.cell?, h']
theorem Bx.frozen {w : World} {b : Nat} {v : Value} {t : TypeId} (h : Bx w b v t) : w.frozen? ⟨b, 0, none⟩ = false := by
  have h' : w.heap[b]? = _ := h
  simp [World.frozen?, h']
theorem Bx.lt {w : World} {b : Nat} {v : Value} {t : TypeId} (h : Bx w b v t) : b < w.heap.size := (Array.getElem?_eq_some_iff.1 h).1
theorem Bx.step {w w' : World} {b : Nat} {v : Value} {t : TypeId} (h : Bx w b v t) (hb : Below w.heap.size w w') : Bx w' b v t := (hb.block b h.lt).trans h
theorem Bx.alt {w w' : World} {b g : Nat} {v : Value} {t : TypeId} (h : Bx w b v t) (hb : Alt g w w') (hg : b ≠ g) : Bx w' b v t := (hb.block b h.lt hg).trans h
theorem Bx.new (w : World) (v : Value) (t : TypeId) : Bx (w.alloc (.cells #[v] t)) w.heap.size v t := heap_new w _
theorem Bx.alloc {w : World} {b : Nat} {v : Value} {t : TypeId} (h : Bx w b v t) (o : Obj) : Bx (w.alloc o) b v t := h.step ((Below.refl _ _).alloc (Nat.le_refl _) _)
theorem Bx.set {w : World} {b : Nat} {v : Value} {t : TypeId} (h : Bx w b v t) (u : Value) : Bx (w.setCell ⟨b, 0, none⟩ u) b u t := by
  have h' : w.heap[b]? = _ := h
  simp [Bx, World.setCell, Array.getElem?_modify, h']

/-- A round that goes on, or returns. -/
def goesR {α : Type} (C : Nat) (I Ix : List α → World → Prop) (xs : List α) (W : World) : Exit → Act → World → Prop
  | .normal, _, W' => KeepsFrom C W W' ∧ I xs W'
  | .ret, _, W' => KeepsFrom C W W' ∧ Ix xs W'
  | _, _, _ => False

/-- What a function that is ranged over tells, as long as what it needs is kept; it may be stopped. -/
def Tells2 {α : Type} (F : Fence) (n : Nat) (P : Program) (gf : Nat) (lb : Array Value) (encs : α → Array Value) (Ne : List α → World → Prop) (R : List α → α → Prop) (S : List α → Prop) (w : World) : Prop :=
  ∀ (l : Nat) (J Jx : List α → World → Prop) (W : World), Below w.heap.size w W →
    (∀ pre A B, J pre A → Below A.heap.size A B → J pre B) → (∀ pre A, J pre A → Ne pre A) →
    (∀ pre x W1, J pre W1 → R pre x → YieldAt F (n - 1) P l (encs x) W1 fun e W' => (e = .returned (.bool true) ∧ J (pre ++ [x]) W') ∨ (e = .returned (.bool false) ∧ Jx (pre ++ [x]) W')) →
    J [] W → CallsIn F n P gf (#[.func (.yield l) #[] #[]] ++ lb) W fun e W' => (∃ v, e = .returned v) ∧ ((∃ xs, S xs ∧ J xs W') ∨ ∃ pre, Jx pre W')

/-- A loop over such a function. -/
theorem wpIn_told2 {α : Type} {F : Fence} {n : Nat} {P : Program} {g : Operand} {ps : Array Tmp} {assign body : Code} {Q : Exit → Act → World → Prop} {a : Act} {w : World}
    (hro : F.round = none) (h1 : 1 ≤ n) {gf : Nat} {lb : Array Value} (hg : a.eval g = .func (.func gf) #[] lb) (hFg : F.fn gf) (eg : ∀ args w, (callFunc gf args).run P w = .ok (.enter gf args) w)
    {encs : α → Array Value} {Ne : List α → World → Prop} {R : List α → α → Prop} {S : List α → Prop} (ht : Tells2 F (n - 1) P gf lb encs Ne R S w) (hps : ∀ x, (encs x).size = ps.size)
    (I Ix : List α → World → Prop) (hI : ∀ pre A B, I pre A → Kc w.heap.size A B → I pre B) (hIx : ∀ pre A B, Ix pre A → Kc w.heap.size A B → Ix pre B) (hN : ∀ pre A, I pre A → Ne pre A) (h0 : I [] w) (a₁ : α → Act)
    (hassign : ∀ (l : Nat) (x : α) (W : World) (K : Act → World → Prop), K (a₁ x) W →
      assign.wpIn (F.inRound l) (n - 1 - 1) P (Exit.then K (fun _ _ _ => False)) { tmps := (ps.zip (encs x)).foldl (fun t (p, v) => t.setIfInBounds p v) a.tmps, defers := [] } W)
    (hbody : ∀ (l : Nat) (pre : List α) (x : α) (W : World), I pre W → R pre x → body.wpIn (F.inRound l) (n - 1 - 1) P (goesR w.heap.size I Ix (pre ++ [x]) W) (a₁ x) W)
    (hdone : ∀ (D : Nat) (xs : List α) (W : World), w.heap.size ≤ D → S xs → I xs W → W.heap[D]? = some (.deferred (some [])) → Q .normal { a with defers := { target := .collected D, args := #[] } :: a.defers } W)
    (hstop : ∀ (D : Nat) (xs : List α) (W : World), w.heap.size ≤ D → Ix xs W → W.heap[D]? = some (.deferred (some [])) → Code.ret.wpIn F n P Q { a with defers := { target := .collected D, args := #[] } :: a.defers } W) :
    (Code.rangeFunc g ps assign body).wpIn F n P Q a w := by
  have oI : OwnFrom w.heap.size I := fun s A B row hs hg hr => hI s A B hs (Kc.grown hg hr)
  have oIx : OwnFrom w.heap.size Ix := fun s A B row hs hg hr => hIx s A B hs (Kc.grown hg hr)
  refine wpIn_rangeFunc fun fn hfn => ?_
  rw [hro]
  obtain ⟨rc, hrc⟩ : ∃ rc : LoopState → Option Code → Loop, rc = fun st pe => { state := st, pending := pe, fn, tmps := a.tmps, params := ps, assign, body, defers := w.heap.size } := ⟨_, rfl⟩
  have hne : w.heap.size ≠ w.heap.size + 1 := by omega
  have hrun := run_enterLoop_outer (P := P) (w := w) fn a.tmps ps assign body
  have hbel : Below w.heap.size w ((w.alloc (.deferred (some []))).alloc (.loop (rc .ready none))) := ((Below.refl _ w).alloc (Nat.le_refl _) _).alloc (by simp) _
  have hst : I [] ((w.alloc (.deferred (some []))).alloc (.loop (rc .ready none))) ∧ ((w.alloc (.deferred (some []))).alloc (.loop (rc .ready none))).heap[w.heap.size + 1]? = some (.loop (rc .ready none)) ∧ ((w.alloc (.deferred (some []))).alloc (.loop (rc .ready none))).heap[w.heap.size]? = some (.deferred (some [])) := by
    refine ⟨oI.alloc _ (oI.alloc _ h0), ?_, ?_⟩
    · have := World.alloc_heap_new (w.alloc (.deferred (some []))) (.loop (rc .ready none))
      rwa [World.size_alloc] at this
    · exact (Below.heap_alloc _ _ _ (by simp)).trans (World.alloc_heap_new w _)
  have hrun' : (Instr.enterLoop fn a.tmps ps assign body none).run P w = .ok (w.heap.size + 1, [{ target := .collected w.heap.size, args := #[] }]) ((w.alloc (.deferred (some []))).alloc (.loop (rc .ready none))) := by rw [hrc]; exact hrun
  generalize ((w.alloc (.deferred (some []))).alloc (.loop (rc .ready none))) = W1 at *
  refine ⟨w.heap.size + 1, _, W1, { target := .fn (.func gf) lb, args := #[.func (.yield (w.heap.size + 1)) #[] #[]] }, W1, gf, #[.func (.yield (w.heap.size + 1)) #[] #[]] ++ lb, W1, hrun', ?_, ?_, ?_, fun _ => h1, ?_⟩
  · simp only [resolve, hg]
    simp [go_sem]
  · intro f' hf'
    simp [Target.leads] at hf'
    subst hf'; exact hFg
  · simp [invoke, go_sem, eg]
  refine (ht (w.heap.size + 1) (fun pre W => I pre W ∧ W.heap[w.heap.size + 1]? = some (.loop (rc .ready none)) ∧ W.heap[w.heap.size]? = some (.deferred (some [])))
    (fun pre W => Ix pre W ∧ W.heap[w.heap.size + 1]? = some (.loop (rc .done (some .ret))) ∧ W.heap[w.heap.size]? = some (.deferred (some []))) W1 hbel ?_ (fun pre A h => hN pre A h.1) ?_ hst).mono ?_
  · rintro pre A B ⟨hi, hl, hk⟩ hb
    exact ⟨hI _ _ _ hi (Kc.of_below hb), (hb.block _ (Array.getElem?_eq_some_iff.1 hl).1).trans hl, (hb.block _ (Array.getElem?_eq_some_iff.1 hk).1).trans hk⟩
  · rintro pre x W ⟨hi, hl, hk⟩ hR
    have hlt : w.heap.size + 1 < W.heap.size := (Array.getElem?_eq_some_iff.1 hl).1
    have hy := run_yield (P := P) (args := encs x) hl (by rw [hrc]; exact hps x)
    rw [hrc] at hy
    refine ⟨fn, _, assign, body, hy, roundIn_of_wpIn hfn (hassign _ x W _ ⟨_, run_beginRound hl (by rw [hrc]), ?_⟩)⟩
    have hbusy : (W.putObj (w.heap.size + 1) (.loop { rc .ready none with state := .busy })).heap[w.heap.size + 1]? = some (.loop { rc .ready none with state := .busy }) := World.putObj_heap_same hlt
    have hdef : (W.putObj (w.heap.size + 1) (.loop { rc .ready none with state := .busy })).heap[w.heap.size]? = some (.deferred (some [])) := (World.putObj_heap_other hne).trans hk
    refine wpIn_mono (hbody _ pre x _ (oI.putObj _ hi (by omega) hl rfl) hR) ?_
    have fin : ∀ (jump : Option Code) (W3 : World), KeepsFrom w.heap.size (W.putObj (w.heap.size + 1) (.loop { rc .ready none with state := .busy })) W3 →
        (Instr.endRound (w.heap.size + 1) jump).run P W3 = .ok (.bool jump.isNone) (W3.putObj (w.heap.size + 1) (.loop (rc (if jump.isNone then .ready else .done) jump))) ∧
        W3.heap[w.heap.size + 1]? = some (.loop { rc .ready none with state := .busy }) ∧
        (W3.putObj (w.heap.size + 1) (.loop (rc (if jump.isNone then .ready else .done) jump))).heap[w.heap.size + 1]? = some (.loop (rc (if jump.isNone then .ready else .done) jump)) ∧
        (W3.putObj (w.heap.size + 1) (.loop (rc (if jump.isNone then .ready else .done) jump))).heap[w.heap.size]? = some (.deferred (some [])) := fun jump W3 hk3 => by
      have hl3 := hk3.same _ _ (by omega) hbusy rfl
      have := run_endRound (P := P) jump hl3
      rw [hrc] at this ⊢
      exact ⟨this, by rw [hrc] at hl3; exact hl3, World.putObj_heap_same (Array.getElem?_eq_some_iff.1 hl3).1, (World.putObj_heap_other hne).trans (hk3.same _ _ (Nat.le_refl _) hdef rfl)⟩
    rintro e a3 W3 hp
    cases e with
    | normal =>
      obtain ⟨hk3, hi3⟩ := hp
      obtain ⟨hr, hl3, hl4, hk4⟩ := fin none W3 hk3
      exact ⟨_, _, hr, .inl ⟨rfl, oI.putObj _ hi3 (by omega) hl3 rfl, hl4, hk4⟩⟩
    | ret =>
      obtain ⟨hk3, hi3⟩ := hp
      obtain ⟨hr, hl3, hl4, hk4⟩ := fin (some .ret) W3 hk3
      exact ⟨_, _, hr, .inr ⟨rfl, oIx.putObj _ hi3 (by omega) hl3 rfl, hl4, hk4⟩⟩
    | exit id => exact hp.elim
    | goto t => exact hp.elim
    | panic ch => exact hp.elim
    | outgrown => exact hp.elim
  · rintro e W2 ⟨⟨v, rfl⟩, (⟨xs, hS, hi, hl, hk⟩ | ⟨pre, hi, hl, hk⟩)⟩
    · exact ⟨none, _, by have := run_endLoop (P := P) hl (by rw [hrc]; simp); rw [hrc] at this; exact this, hdone _ xs _ (Nat.le_refl _) hS (oI.putObj _ hi (by omega) hl rfl) ((World.putObj_heap_other hne).trans hk)⟩
    · exact ⟨some .ret, _, by have := run_endLoop (P := P) hl (by rw [hrc]; simp); rw [hrc] at this; exact this, hstop _ pre _ (Nat.le_refl _) (oIx.putObj _ hi (by omega) hl rfl) ((World.putObj_heap_other hne).trans hk)⟩
end Od
end Go.Proofs.Ytbamhbfncddieaa

namespace Go.Proofs.Ytbamhbfncddieaa
namespace Od
open Go.RowKit

/-- A code point's class. -/
def clsP (r : Int) : Int := (Uc.getV Uc.zTr Uc.bookL r).d
/-- The book. -/
def Bk (w : World) (b : Nat) : Prop := ∃ p rv, Uc.Book w b Uc.bookL p rv
theorem Bk.step {w w' : World} {b : Nat} (h : Bk w b) (hb : Below w.heap.size w w') : Bk w' b := by
  obtain ⟨p, rv, h⟩ := h
  exact ⟨p, rv, h.step hb⟩
theorem cls_any {w : World} {b : Nat} (h : Bk w b) (r : Int) : Calls Try.prog 26 #[.pointer (some ⟨b, 0, none⟩), .int .i32 r] w fun e w' => e = .returned (.int .i64 (clsP r)) ∧ Below w.heap.size w w' := by
  obtain ⟨p, rv, h⟩ := h
  exact Uc.class_any h r
theorem newbook_any (w : World) : Calls Try.prog 11 #[] w fun e w' => ∃ b, e = .returned (.pointer (some ⟨b, 0, none⟩)) ∧ Below w.heap.size w w' ∧ Bk w' b := by
  refine (Uc.new_any w).mono ?_
  rintro e w' ⟨b, p, rv, he, hb, hB⟩
  exact ⟨b, he, hb, p, rv, hB⟩
theorem book_cls : Uc.bookL.all (fun x => decide (0 ≤ x.v.d) && decide (x.v.d ≤ 255)) = true := by kernel_rfl
theorem cls_bd (r : Int) : 0 ≤ clsP r ∧ clsP r ≤ 255 := by
  have h := Uc.get_or (fun x => decide (0 ≤ x.d) && decide (x.d ≤ 255)) Uc.bookL Uc.zTr r (by decide) book_cls
  rw [Bool.and_eq_true, decide_eq_true_eq, decide_eq_true_eq] at h
  exact h

theorem byc_any (b : Nat) (w : World) : Calls Try.prog 101 #[.pointer (some ⟨b, 0, none⟩)] w fun e w' => e = .returned (.func (.func 112) #[] #[.pointer (some ⟨w.heap.size, 0, none⟩)]) ∧ w' = w.alloc (.cells #[.pointer (some ⟨b, 0, none⟩)] 28) := by
  go_enter Try.func101, Try.ntmps101
  go_wp2
  go_ret
  exact ⟨rfl, rfl⟩

set_option maxHeartbeats 2000000 in
theorem byc1_any {W : World} {b pb : Nat} (hB : Bk W b) (hx : Bx W pb (.pointer (some ⟨b, 0, none⟩)) 28) (x y : Int) :
    Calls Try.prog 112 #[.int .i32 x, .int .i32 y, .pointer (some ⟨pb, 0, none⟩)] W fun e w' => e = .returned (.int .i64 (cmpI (clsP x) (clsP y))) ∧ Below W.heap.size W w' := by
  have hok := Ok.start W
  have HD : Hid (Ok W.heap.size W W.drew ∧ Bk W.drew b ∧ Bx W.drew pb (.pointer (some ⟨b, 0, none⟩)) 28) := ⟨hok.step ((Below.refl _ _).drew), hB.step ((Below.refl _ _).drew), hx.step ((Below.refl _ _).drew)⟩
  have HC := hid (fun w r (h : Bk w b) => cls_any h r)
  have HM := hid (fun w a c => cmp_any a c w)
  have hstep : Hid (∀ A B, (Ok W.heap.size W A ∧ Bk A b ∧ Bx A pb (.pointer (some ⟨b, 0, none⟩)) 28) → Below A.heap.size A B → (Ok W.heap.size W B ∧ Bk B b ∧ Bx B pb (.pointer (some ⟨b, 0, none⟩)) 28)) := fun A B h hb => ⟨h.1.step hb, h.2.1.step hb, h.2.2.step hb⟩
  have H0 := hid hx
  clear hB hx hok
  go_enter Try.func112, Try.ntmps112
  go_wp2_with fail
  go_region_held3 (fun w' => w'.cell? ⟨pb, 0, none⟩ = some (.pointer (some ⟨b, 0, none⟩)))
    (first | exact HD.out.2.2.cell | exact H0.out.cell)
    (first | (go_at_call 26; refine (HC.out _ _ HD.out.2.1).mono ?_; rintro e w' ⟨rfl, hb'⟩; replace HD := hid (hstep.out _ _ HD.out hb'); clear hb') | (go_at_call 113; refine (HM.out _ _ _).mono ?_; rintro e w' ⟨rfl, rfl⟩))
  all_goals go_wp2_with fail
  all_goals go_ret
  all_goals exact ⟨rfl, HD.out.1.1⟩

theorem runs_any (b : Nat) (ao : Option Addr) (n cap : Nat) (w : World) : Calls Try.prog 99 #[.pointer (some ⟨b, 0, none⟩), .slice ao n cap] w fun e w' => e = .returned (.func (.func 110) #[] #[.pointer (some ⟨w.heap.size + 1, 0, none⟩), .pointer (some ⟨w.heap.size, 0, none⟩)]) ∧ w' = (w.alloc (.cells #[.pointer (some ⟨b, 0, none⟩)] 28)).alloc (.cells #[.slice ao n cap] 22) := by
  go_enter Try.func99, Try.ntmps99
  go_wp2
  go_ret
  exact ⟨rfl, rfl⟩

/-- The place behind the last run that was told. -/
def endOf (pre : List (Nat × Nat)) : Nat := (pre.getLast?.map (·.2)).getD 0
theorem endOf_snoc (pre : List (Nat × Nat)) (x : Nat × Nat) : endOf (pre ++ [x]) = x.2 := by simp [endOf]
/-- What is told next: a run of marks, with starters alone ahead of it. -/
def NextR (c : Int → Int) (l : List Int) (pre : List (Nat × Nat)) (x : Nat × Nat) : Prop :=
  endOf pre ≤ x.1 ∧ x.1 < x.2 ∧ x.2 ≤ l.length ∧ (∀ i (h : i < l.length), endOf pre ≤ i → i < x.1 → c l[i] = 0) ∧ (∀ i (h : i < l.length), x.1 ≤ i → i < x.2 → c l[i] ≠ 0) ∧ (pre = [] ∨ endOf pre < x.1)
def AllR (c : Int → Int) (l : List Int) (xs : List (Nat × Nat)) : Prop := xs = runsP c l ∧ ∀ i (h : i < l.length), endOf xs ≤ i → c l[i] = 0
/-- What the iterator needs: the book, and the runes that it has not seen. -/
structure NeR (b : Nat) (ao : Option Addr) (cap pl pb : Nat) (l : List Int) (pre : List (Nat × Nat)) (W : World) : Prop where
  book : Bk W b
  bl : Bx W pl (.slice ao l.length cap) 22
  bb : Bx W pb (.pointer (some ⟨b, 0, none⟩)) 28
  rest : ∀ i (h : i < l.length), endOf pre ≤ i → ∃ g off, ao = some ⟨g, off, none⟩ ∧ W.cell? ⟨g, off + i, none⟩ = some (.int .i32 l[i])

def toldR (x : Nat × Nat) : Array Value := #[.int .i64 (x.1 : Int), .int .i64 (x.2 : Int)]

/-- What has been told ahead of a place at which none is open. -/
def InvR (c : Int → Int) (l : List Int) (k : Nat) (pre : List (Nat × Nat)) : Prop :=
  (∀ i (h : i < l.length), endOf pre ≤ i → i < k → c l[i] = 0) ∧ endOf pre ≤ k ∧ (pre = [] ∨ endOf pre < k) ∧ (k ≤ l.length → stR c (l.take k) = (pre, none, k)) ∧ (l.length < k → pre = runsP c l)
/-- And within one. -/
def InnR (c : Int → Int) (l : List Int) (k t : Nat) (pre : List (Nat × Nat)) : Prop :=
  (∀ i (h : i < l.length), k ≤ i → i < t → c l[i] ≠ 0) ∧ stR c (l.take t) = (pre, if k < t then some k else none, t)
theorem InvR.start (c : Int → Int) (l : List Int) : InvR c l 0 [] := ⟨fun i h h1 h2 => by omega, Nat.le_refl _, .inl rfl, fun _ => rfl, fun h => by omega⟩
theorem InvR.inn {c : Int → Int} {l : List Int} {k : Nat} {pre : List (Nat × Nat)} (h : InvR c l k pre) (hk : k ≤ l.length) : InnR c l k k pre := ⟨fun i h h1 h2 => by omega, by rw [h.2.2.2.1 hk, if_neg (by omega)]⟩
theorem InnR.mark {c : Int → Int} {l : List Int} {k t : Nat} {pre : List (Nat × Nat)} (h : InnR c l k t pre) (hkt : k ≤ t) (ht : t < l.length) (hc : c l[t] ≠ 0) : InnR c l k (t + 1) pre := by
  refine ⟨fun i hi h1 h2 => ?_, ?_⟩
  · rcases Nat.lt_or_ge i t with h3 | h3
    · exact h.1 i hi h1 h3
    · have : i = t := by omega
      subst this; exact hc
  · rw [stR_take c l t ht, h.2, stepR, if_neg hc]
    have h3 : k < t + 1 := by omega
    by_cases hkt' : k < t
    · simp [hkt', h3]
    · have : k = t := by omega
      simp [this]
theorem InnR.next {c : Int → Int} {l : List Int} {k t : Nat} {pre : List (Nat × Nat)} (hI : InvR c l k pre) (h : InnR c l k t pre) (hkt : k < t) (ht : t ≤ l.length) : NextR c l pre (k, t) :=
  ⟨hI.2.1, hkt, ht, fun i hi h1 h2 => hI.1 i hi h1 h2, fun i hi h1 h2 => h.1 i hi h1 h2, hI.2.2.1⟩
theorem InnR.told {c : Int → Int} {l : List Int} {k t : Nat} {pre : List (Nat × Nat)} (h : InnR c l k t pre) (hkt : k < t) (ht : t ≤ l.length) (he : ∀ (hh : t < l.length), c l[t] = 0) : InvR c l (t + 1) (pre ++ [(k, t)]) := by
  refine ⟨fun i hi h1 h2 => ?_, by rw [endOf_snoc]; exact Nat.le_succ t, .inr (by rw [endOf_snoc]; exact Nat.lt_succ_self t), fun h1 => ?_, fun h1 => ?_⟩
  · rw [endOf_snoc] at h1
    have h1' : t ≤ i := h1
    have : i = t := by omega
    subst this; exact he hi
  · rw [stR_take c l t (by omega), h.2, if_pos hkt, stepR, if_pos (he (by omega))]
  · have : t = l.length := by omega
    subst this
    have h2 := h.2
    rw [List.take_length, if_pos hkt] at h2
    rw [runsP, h2]; rfl
theorem InnR.none_ {c : Int → Int} {l : List Int} {k : Nat} {pre : List (Nat × Nat)} (hI : InvR c l k pre) (hk : k < l.length) (he : c l[k] = 0) : InvR c l (k + 1) pre := by
  refine ⟨fun i hi h1 h2 => ?_, by have := hI.2.1; omega, ?_, fun h1 => ?_, fun h1 => by omega⟩
  · rcases Nat.lt_or_ge i k with h3 | h3
    · exact hI.1 i hi h1 h3
    · have : i = k := by omega
      subst this; exact he
  · rcases hI.2.2.1 with h | h
    · exact .inl h
    · exact .inr (by omega)
  · rw [stR_take c l k hk, hI.2.2.2.1 (by omega), stepR, if_pos he]
theorem InvR.all {c : Int → Int} {l : List Int} {k : Nat} {pre : List (Nat × Nat)} (h : InvR c l k pre) (hk : l.length ≤ k) : AllR c l pre := by
  refine ⟨?_, fun i hi h1 => h.1 i hi h1 (by omega)⟩
  rcases Nat.lt_or_ge l.length k with h1 | h1
  · exact h.2.2.2.2 h1
  · have : k = l.length := by omega
    subst this
    have h2 := h.2.2.2.1 (Nat.le_refl _)
    rw [List.take_length] at h2
    rw [runsP, h2]; rfl

attribute [local go_sem] Oper.semAt_some
set_option maxRecDepth 100000 in
set_option maxHeartbeats 4000000 in
theorem runs1_tells (n b : Nat) (ao : Option Addr) (cap pl pb : Nat) (hn : 1 ≤ n) (l : List Int) (hl : l.length ≤ 1000000) (w : World) :
    Tells2 Fence.wide n Try.prog 110 #[.pointer (some ⟨pl, 0, none⟩), .pointer (some ⟨pb, 0, none⟩)] toldR (NeR b ao cap pl pb l) (NextR clsP l) (AllR clsP l) w := by
  intro y J Jx W hW hJb hJN hY h0
  have HJb := hid hJb
  have HJN := hid hJN
  have HY := hid hY
  have H0 := hid h0
  have HCl := hid (fun w r (h : Bk w b) => cls_any h r)
  clear hJb hJN hY h0 hW
  refine callsIn_of_wp Try.func110 rfl trivial ?_ rfl
  simp only [Try.ntmps110, List.size_toArray, List.length_cons, List.length_nil, Nat.reduceAdd, Nat.reduceSub, Array.replicate_succ, Array.replicate_zero, List.push_toArray, List.append_toArray, List.nil_append, List.cons_append]
  gi_wp2
  gi_loopw [4] (fun i wr => ∃ (k : Nat) (pre : List (Nat × Nat)), k ≤ l.length + 1 ∧ i = .int .i64 k ∧ Hid (J pre wr ∧ InvR clsP l k pre)) (fun i _ => l.length + 1 - (intOf i).toNat)
  case atStart => exact ⟨0, [], Nat.zero_le _, rfl, H0.out, InvR.start _ _⟩
  case round =>
    obtain ⟨k, pre, hk, rfl, H⟩ := hrel
    clear H0
    by_cases hlt : k < l.length
    · have hNe := HJN.out _ _ H.out.1
      have c1 := hNe.bl.cell
      have hltz : (k : Int) < (l.length : Int) := by omega
      clear hNe
      gi_wp2_with fail
      clear c1
      refine wpIn_wide.2 ?_
      go_loopg [5] (l.length - k) (fun gg vt wt => ∃ t : Nat, vt = .int .i64 t ∧ k ≤ t ∧ t ≤ l.length ∧ gg = l.length - t ∧ Hid (J pre wt ∧ InnR clsP l k t pre))
      case atStart => exact ⟨k, rfl, Nat.le_refl _, by omega, rfl, H.out.1, H.out.2.inn (by omega)⟩
      case round =>
        obtain ⟨t, rfl, hkt, htl, hgg, H1⟩ := hrel
        have HG := hid hgg
        clear hgg
        have HI := hid H.out.2
        clear H
        by_cases hlt2 : t < l.length
        · have hNe := HJN.out _ _ H1.out.1
          obtain ⟨g, off, rfl, ct⟩ := hNe.rest t hlt2 (by have := HI.out.2.1; omega)
          have c1 := hNe.bl.cell
          have c2 := hNe.bb.cell
          have HB : Hid (Bk wr b) := hNe.book
          clear hNe
          have HJ : Hid (J pre wr) := H1.out.1
          have HD : Hid (J pre wr.drew) := HJb.out _ _ _ HJ.out ((Below.refl _ _).drew)
          have HCt : Hid (∀ A, J pre A → A.cell? ⟨g, off + t, none⟩ = some (.int .i32 l[t])) := fun A hA => by
            obtain ⟨g', off', e, ct'⟩ := (HJN.out _ _ hA).rest t hlt2 (by have := HI.out.2.1; omega)
            simp at e
            obtain ⟨rfl, rfl⟩ := e
            exact ct'
          have hm : Hid (clsP l[t] ≠ 0 → InnR clsP l k (t + 1) pre) := fun hc => H1.out.2.mark hkt hlt2 hc
          have hz : Hid (clsP l[t] = 0 → ∀ (hh : t < l.length), clsP l[t] = 0) := fun h _ => h
          have HIn := hid H1.out.2
          have hltz2 : (t : Int) < (l.length : Int) := by omega
          clear H1
          have HCr := hid (fun w h => HCl.out w l[t] h)
          generalize hr : l[t] = r at *
          have HR := hid hr
          clear hr
          have cls0 := cls_bd r
          by_cases hc : clsP r = 0
          · have HZ := hid hc
            rw [hc] at HCr
            clear hc cls0
            go_wp2_with fail
            go_region_held3 (fun w' => w'.cell? ⟨pl, 0, none⟩ = some (.slice (some ⟨g, off, none⟩) l.length cap) ∧ w'.cell? ⟨pb, 0, none⟩ = some (.pointer (some ⟨b, 0, none⟩)) ∧ w'.cell? ⟨g, off + t, none⟩ = some (.int .i32 r))
              (first | exact ⟨(HJN.out _ _ HD.out).bl.cell, (HJN.out _ _ HD.out).bb.cell, HCt.out _ HD.out⟩ | exact ⟨c1, c2, ct⟩)
              (first | (go_at_call 26; refine (HCr.out _ (HJN.out _ _ HD.out).book).mono ?_; rintro e w' ⟨rfl, hb'⟩; replace HD := hid (HJb.out _ _ _ HD.out hb'); clear hb'))
            go_wp2_with fail
            have HE : Hid (∀ (hh : t < l.length), clsP l[t] = 0) := fun hh => by rw [HR.out]; exact HZ.out
            by_cases hkt' : k < t
            · have hR := HY.out pre (k, t) w' HD.out (InnR.next HI.out HIn.out hkt' htl)
              obtain ⟨fn, tmps, assign, body, hy, hRo⟩ := hR
              unfold toldR at hy
              dsimp only at hy
              have hktz : (k : Int) < (t : Int) := by omega
              have HN := hid (InnR.told HIn.out hkt' htl HE.out)
              gi_wp2_with fail
              refine hRo.mono ?_
              rintro e W3 (⟨rfl, hJ3⟩ | ⟨rfl, hJx⟩)
              · have H3 := hid hJ3
                clear hJ3
                gi_wp2_with fail
                go_roundw
                case rel => exact ⟨t + 1, _, by omega, by go_num, H3.out, HN.out⟩
                case measure => simp [intOf]; omega
              · have H3 := hid hJx
                clear hJx
                gi_wp2_with fail
                (try simp only [Exit.inBlock, Exit.then])
                refine bodyPost_ret (results_none rfl _ _ _) rfl ?_
                exact ⟨⟨_, rfl⟩, .inr ⟨_, H3.out⟩⟩
            · have hktz : ¬ (k : Int) < (t : Int) := by omega
              have hktd : decide ((k : Int) < (t : Int)) = false := decide_eq_false hktz
              have HN : Hid (InvR clsP l (t + 1) pre) := by
                have : k = t := by omega
                subst this
                exact InnR.none_ HI.out hlt (HE.out hlt)
              gi_wp2_with fail
              refine ⟨fun _ _ => trivial, ?_⟩
              gi_wp2_with fail
              go_roundw
              case rel => exact ⟨t + 1, _, by omega, by go_num, HD.out, HN.out⟩
              case measure => simp [intOf]; omega
          · have HZ := hid (hm.out hc)
            have hcz : (clsP r != 0) = true := by simpa using hc
            have hcz2 : ¬ clsP r = 0 := hc
            generalize clsP r = cr at *
            go_wp2_with fail
            go_region_held3 (fun w' => w'.cell? ⟨pl, 0, none⟩ = some (.slice (some ⟨g, off, none⟩) l.length cap) ∧ w'.cell? ⟨pb, 0, none⟩ = some (.pointer (some ⟨b, 0, none⟩)) ∧ w'.cell? ⟨g, off + t, none⟩ = some (.int .i32 r))
              (first | exact ⟨(HJN.out _ _ HD.out).bl.cell, (HJN.out _ _ HD.out).bb.cell, HCt.out _ HD.out⟩ | exact ⟨c1, c2, ct⟩)
              (first | (go_at_call 26; refine (HCr.out _ (HJN.out _ _ HD.out).book).mono ?_; rintro e w' ⟨rfl, hb'⟩; replace HD := hid (HJb.out _ _ _ HD.out hb'); clear hb'))
            go_wp2_with fail
            go_roundg (l.length - (t + 1))
            case measure => rw [HG.out]; omega
            case rel => exact ⟨t + 1, by go_num, by omega, by omega, rfl, HD.out, HZ.out⟩
        · have hNe := HJN.out _ _ H1.out.1
          have c1 := hNe.bl.cell
          have c1d : wr.drew.cell? ⟨pl, 0, none⟩ = some (.slice ao l.length cap) := c1
          clear hNe
          have HD : Hid (J pre wr.drew) := HJb.out _ _ _ H1.out.1 ((Below.refl _ _).drew)
          have HIn := hid H1.out.2
          clear H1
          have HE : Hid (∀ (hh : t < l.length), clsP l[t] = 0) := fun hh => absurd hh hlt2
          have z1 : ¬ (t : Int) < (l.length : Int) := by omega
          have z2 : decide ((t : Int) < (l.length : Int)) = false := decide_eq_false z1
          go_wp2_with fail
          go_region
          go_wp2_with fail
          by_cases hkt' : k < t
          · have hR := HY.out pre (k, t) wr.drew HD.out (InnR.next HI.out HIn.out hkt' htl)
            obtain ⟨fn, tmps, assign, body, hy, hRo⟩ := hR
            unfold toldR at hy
            dsimp only at hy
            have hktz : (k : Int) < (t : Int) := by omega
            have HN := hid (InnR.told HIn.out hkt' htl HE.out)
            gi_wp2_with fail
            refine hRo.mono ?_
            rintro e W3 (⟨rfl, hJ3⟩ | ⟨rfl, hJx⟩)
            · have H3 := hid hJ3
              clear hJ3
              gi_wp2_with fail
              go_roundw
              case rel => exact ⟨t + 1, _, by omega, by go_num, H3.out, HN.out⟩
              case measure => simp [intOf]; omega
            · have H3 := hid hJx
              clear hJx
              gi_wp2_with fail
              (try simp only [Exit.inBlock, Exit.then])
              refine bodyPost_ret (results_none rfl _ _ _) rfl ?_
              exact ⟨⟨_, rfl⟩, .inr ⟨_, H3.out⟩⟩
          · exfalso; omega
    · have hNe := HJN.out _ _ H.out.1
      have c1 := hNe.bl.cell
      have z1 : ¬ (k : Int) < (l.length : Int) := by omega
      clear hNe
      have HA := hid (H.out.2.all (by omega))
      gi_wp2_with fail
      go_end0
      exact ⟨⟨_, rfl⟩, .inl ⟨_, HA.out, H.out.1⟩⟩
end Od
end Go.Proofs.Ytbamhbfncddieaa

namespace Go.Proofs.Ytbamhbfncddieaa
namespace Od
open Go.RowKit

theorem ord_app {c : Int → Int} : ∀ {P Q : List Int}, Ord c P → Ord c Q → (∀ p q, P.getLast? = some p → Q.head? = some q → ¬ (0 < c q ∧ c q < c p)) → Ord c (P ++ Q)
  | [], _, _, hQ, _ => hQ
  | [p], [], _, _, _ => trivial
  | [p], q :: Q, _, hQ, h => ⟨h p q rfl rfl, hQ⟩
  | x :: y :: P, Q, hP, hQ, h => ⟨hP.1, ord_app (P := y :: P) hP.2 hQ (fun p q h1 h2 => h p q (by simpa using h1) h2)⟩
theorem ord_zero {c : Int → Int} : ∀ {Z : List Int}, (∀ z ∈ Z, c z = 0) → Ord c Z
  | [], _ => trivial
  | [_], _ => trivial
  | x :: y :: Z, h => ⟨by have := h y (by simp); omega, ord_zero (fun z hz => h z (by simp [hz]))⟩
/-- What is in order, starters, and what is in order are in order. -/
theorem ord_glue {c : Int → Int} (hc : ∀ x, 0 ≤ c x) {P Z M : List Int} (hP : Ord c P) (hZ : ∀ z ∈ Z, c z = 0) (hM : Ord c M) (h : Z ≠ [] ∨ P = []) : Ord c (P ++ Z ++ M) := by
  rcases h with h | h
  · refine ord_app (ord_app hP (ord_zero hZ) (fun p q h1 h2 => ?_)) hM (fun p q h1 h2 => ?_)
    · have := hZ q (List.mem_of_mem_head? h2); omega
    · rw [List.getLast?_append] at h1
      obtain ⟨z, hz⟩ : ∃ z, Z.getLast? = some z := ⟨Z.getLast h, List.getLast?_eq_some_getLast h⟩
      rw [hz] at h1
      simp at h1
      have h3 := hZ p (by rw [← h1]; exact List.mem_of_getLast? hz)
      have := hc q
      omega
  · subst h
    refine ord_app (ord_zero (by simpa using hZ)) hM (fun p q h1 h2 => ?_)
    have h3 := hZ p (by simpa using List.mem_of_getLast? h1)
    have := hc q
    omega

/-- How far a row has been put in order. -/
def Upto (c : Int → Int) (zs : List Int) (e : Nat) (R : List Int) : Prop := Sw c zs R ∧ R.drop e = zs.drop e ∧ Ord c (R.take e)
theorem Upto.start (c : Int → Int) (zs : List Int) : Upto c zs 0 zs := ⟨.refl _, rfl, trivial⟩
theorem mem_seg {l : List Int} {f t : Nat} {x : Int} (h : x ∈ (l.take t).drop f) : ∃ i, ∃ hi : i < l.length, f ≤ i ∧ i < t ∧ l[i] = x := by
  obtain ⟨i, hi, e⟩ := List.mem_iff_getElem.1 h
  rw [List.length_drop, List.length_take] at hi
  refine ⟨f + i, by omega, by omega, by omega, ?_⟩
  rw [← e, List.getElem_drop, List.getElem_take]
theorem seg_eq {R zs : List Int} {e f t : Nat} (h : R.drop e = zs.drop e) (hef : e ≤ f) : (R.take t).drop f = (zs.take t).drop f := by
  rw [List.drop_take, List.drop_take]
  congr 1
  have : (R.drop e).drop (f - e) = (zs.drop e).drop (f - e) := by rw [h]
  rwa [List.drop_drop, List.drop_drop, show e + (f - e) = f by omega] at this
theorem Upto.next {c : Int → Int} (hc : ∀ x, 0 ≤ c x) {zs R : List Int} {pre : List (Nat × Nat)} {f t : Nat} (h : Upto c zs (endOf pre) R) (hx : NextR c zs pre (f, t)) :
    R = R.take f ++ (R.take t).drop f ++ R.drop t ∧ (R.take f).length = f ∧ ((R.take t).drop f).length = t - f ∧ (∀ x ∈ (R.take t).drop f, 0 < c x) ∧ Upto c zs (endOf (pre ++ [(f, t)])) (R.take f ++ srt c ((R.take t).drop f) ++ R.drop t) := by
  obtain ⟨h1, h2, h3⟩ := h
  obtain ⟨x1, x2, x3, x4, x5, x6⟩ := hx
  simp only at x1 x2 x3 x4 x5 x6
  have hlen := h1.len
  have e0 : R = R.take f ++ (R.take t).drop f ++ R.drop t := by
    have e1 : R.take t = R.take f ++ (R.take t).drop f := by
      conv => lhs; rw [← List.take_append_drop f (R.take t)]
      rw [List.take_take, Nat.min_eq_left (by omega)]
    rw [← e1, List.take_append_drop]
  have e2 : (R.take f).length = f := by rw [List.length_take]; omega
  have e3 : ((R.take t).drop f).length = t - f := by rw [List.length_drop, List.length_take]; omega
  have hs := seg_eq (t := t) h2 x1
  have hp : ∀ x ∈ (R.take t).drop f, 0 < c x := by
    intro x hx
    rw [hs] at hx
    obtain ⟨i, hi, a1, a2, rfl⟩ := mem_seg hx
    have := x5 i hi a1 a2
    have := hc zs[i]
    omega
  have e4 : (srt c ((R.take t).drop f)).length = t - f := by rw [(sw_srt c _).len, e3]
  refine ⟨e0, e2, e3, hp, ?_, ?_, ?_⟩
  · refine h1.trans ?_
    conv => lhs; rw [e0]
    exact (sw_srt c _).ctx _ _
  · rw [endOf_snoc]
    show List.drop t _ = List.drop t _
    rw [List.drop_append_of_le_length (by rw [List.length_append]; omega), List.drop_eq_nil_of_le (by rw [List.length_append]; omega), List.nil_append]
    have : (R.drop (endOf pre)).drop (t - endOf pre) = (zs.drop (endOf pre)).drop (t - endOf pre) := by rw [h2]
    rwa [List.drop_drop, List.drop_drop, show endOf pre + (t - endOf pre) = t by omega] at this
  · rw [endOf_snoc]
    show Ord c (List.take t _)
    rw [List.take_append_of_le_length (by rw [List.length_append]; omega), List.take_of_length_le (by rw [List.length_append]; omega)]
    have e5 : R.take f = R.take (endOf pre) ++ (R.take f).drop (endOf pre) := by
      conv => lhs; rw [← List.take_append_drop (endOf pre) (R.take f)]
      rw [List.take_take, Nat.min_eq_left x1]
    rw [e5]
    refine ord_glue hc h3 (fun z hz => ?_) (ord_srt c _) ?_
    · rw [seg_eq (t := f) h2 (Nat.le_refl _)] at hz
      obtain ⟨i, hi, a1, a2, rfl⟩ := mem_seg hz
      exact x4 i hi a1 a2
    · rcases x6 with h | h
      · right; rw [h]; rfl
      · left
        intro e
        have := congrArg List.length e
        rw [List.length_drop, List.length_take] at this
        simp at this; omega
theorem Upto.fin {c : Int → Int} {zs R : List Int} {xs : List (Nat × Nat)} (h : Upto c zs (endOf xs) R) (hx : AllR c zs xs) : R = srt c zs := by
  refine h.1.fin ?_
  have e : R = R.take (endOf xs) ++ R.drop (endOf xs) := (List.take_append_drop _ _).symm
  have hz : ∀ z ∈ R.drop (endOf xs), c z = 0 := by
    intro z hz
    rw [h.2.1] at hz
    obtain ⟨i, hi, e⟩ := List.mem_iff_getElem.1 hz
    rw [List.length_drop] at hi
    rw [← e, List.getElem_drop]
    exact hx.2 _ (by omega) (by omega)
  rw [e]
  refine ord_app h.2.2 (ord_zero hz) (fun p q h1 h2 => ?_)
  have := hz q (List.mem_of_mem_head? h2)
  omega

/-- A clone. -/
theorem clone_any' (v : Value) (zs : List Int) (w : World) (h : Sl .i32 w v zs) (hn : zs.length ≤ 1000000) :
    Calls Try.prog 98 #[v] w fun e w' => ∃ ao cap, e = .returned (.slice ao zs.length cap) ∧ Below w.heap.size w w' ∧ zs.length ≤ cap ∧ (ao = none → zs.length = 0 ∧ cap = 0) ∧ (zs = [] ∨ ∃ g T, ao = some ⟨g, 0, none⟩ ∧ w.heap.size ≤ g ∧ Blk w' g zs T) := by
  refine (clone_any v zs w h hn).mono ?_
  rintro e w' ⟨v', rfl, hb, ⟨rfl, ao, cap, rfl, h⟩ | ⟨g, cap, T, rfl, hc, hg, hB⟩⟩
  · exact ⟨ao, cap, rfl, hb, Nat.zero_le _, h.none_, .inl rfl⟩
  · exact ⟨_, cap, rfl, hb, hc, fun e => (by cases e), .inr ⟨g, T, rfl, hg, hB⟩⟩

/-- What Sort keeps. -/
structure SoI (w : World) (b : Nat) (zs : List Int) (ao : Option Addr) (cap o2 o5 pl pb : Nat) (pre : List (Nat × Nat)) (W : World) : Prop where
  bel : Below w.heap.size w W
  b2 : Bx W o2 (.pointer (some ⟨b, 0, none⟩)) 28
  b5 : Bx W o5 (.slice ao zs.length cap) 22
  bl : Bx W pl (.slice ao zs.length cap) 22
  bb : Bx W pb (.pointer (some ⟨b, 0, none⟩)) 28
  row : zs = [] ∨ ∃ g T R, ao = some ⟨g, 0, none⟩ ∧ w.heap.size ≤ g ∧ g ≠ o2 ∧ g ≠ o5 ∧ g ≠ pl ∧ g ≠ pb ∧ Blk W g R T ∧ Upto clsP zs (endOf pre) R
theorem SoI.keep {w : World} {b : Nat} {zs : List Int} {ao : Option Addr} {cap o2 o5 pl pb N : Nat} {pre : List (Nat × Nat)} {A B : World} (h : SoI w b zs ao cap o2 o5 pl pb pre A) (hk : Kc N A B) (hN : w.heap.size ≤ N) : SoI w b zs ao cap o2 o5 pl pb pre B :=
  ⟨hk.below h.bel hN (Nat.le_refl _), hk.bx h.b2, hk.bx h.b5, hk.bx h.bl, hk.bx h.bb, by
    rcases h.row with h | ⟨g, T, R, h1, h2, h3, h4, h5, h6, h7, h8⟩
    · exact .inl h
    · exact .inr ⟨g, T, R, h1, h2, h3, h4, h5, h6, hk.blk h7, h8⟩⟩
theorem SoI.ne {w : World} {b : Nat} {zs : List Int} {ao : Option Addr} {cap o2 o5 pl pb : Nat} {pre : List (Nat × Nat)} {A : World} (hB : Bk w b) (h : SoI w b zs ao cap o2 o5 pl pb pre A) : NeR b ao cap pl pb zs pre A :=
  ⟨hB.step h.bel, h.bl, h.bb, fun i hi he => by
    rcases h.row with h | ⟨g, T, R, h1, h2, _, _, _, _, h7, h8⟩
    · subst h; simp at hi
    · refine ⟨g, 0, h1, ?_⟩
      rw [Nat.zero_add]
      refine h7.cell _ _ ?_
      have := congrArg (fun l => l[i - endOf pre]?) h8.2.1
      simp only [List.getElem?_drop] at this
      rw [show endOf pre + (i - endOf pre) = i by omega] at this
      rw [this, List.getElem?_eq_getElem hi]⟩
/-- A run is put in order. -/
theorem SoI.run {w : World} {b : Nat} {zs : List Int} {ao : Option Addr} {cap o2 o5 pl pb : Nat} {pre : List (Nat × Nat)} {A : World} (hB : Bk w b) (hn : zs.length ≤ 1000000) (h : SoI w b zs ao cap o2 o5 pl pb pre A) {f t : Nat} (hx : NextR clsP zs pre (f, t)) :
    ∃ g, ao = some ⟨g, 0, none⟩ ∧ ∀ A' cb, A' = A.alloc (.cells #[.pointer (some ⟨b, 0, none⟩)] 28) → cb = A.heap.size → ∀ cap', Calls Try.prog 100 #[.slice (some ⟨g, f, none⟩) (t - f) cap', .func (.func 112) #[] #[.pointer (some ⟨cb, 0, none⟩)]] A' fun e w' => e = .returned (.tuple #[]) ∧ SoI w b zs ao cap o2 o5 pl pb (pre ++ [(f, t)]) w' ∧ KeepsFrom w.heap.size A w' := by
  have hz : zs ≠ [] := by
    intro e
    have h1 := hx.2.1
    have h2 := hx.2.2.1
    rw [e] at h2; simp at h1 h2; omega
  rcases h.row with h0 | ⟨g, T, R, h1, h2, h3, h4, h5, h6, h7, h8⟩
  · exact absurd h0 hz
  · refine ⟨g, h1, fun A' cb e1 e2 cap' => ?_⟩
    subst e1 e2
    obtain ⟨n1, n2, n3, n4, n5⟩ := h8.next (fun x => (cls_bd x).1) hx
    have hlt : g < A.heap.size := h7.lt
    have hbA : Below A.heap.size A (A.alloc (.cells #[.pointer (some ⟨b, 0, none⟩)] 28)) := (Below.refl _ _).alloc (Nat.le_refl _) _
    have hC : Cmp clsP (fun W => Below w.heap.size w W ∧ Bx W A.heap.size (.pointer (some ⟨b, 0, none⟩)) 28) g #[.pointer (some ⟨A.heap.size, 0, none⟩)] := by
      refine ⟨fun W x y _ _ hW => byc1_any (hB.step hW.1) hW.2 x y, fun W W' hW ha => ⟨hW.1.trans (ha.below hW.1.size h2), hW.2.alt ha (by omega)⟩⟩
    have hblk : Blk (A.alloc (.cells #[.pointer (some ⟨b, 0, none⟩)] 28)) g (R.take f ++ (R.take t).drop f ++ R.drop t) T := by rw [← n1]; exact h7.step hbA
    refine (sstf_any _ g f cap' (t - f) hC _ _ _ T hblk ⟨h.bel.trans (hbA.mono h.bel.size), Bx.new _ _ _⟩ n2 n3 (by have := hx.2.2.1; simp at this; omega) n4).mono ?_
    rintro e w' ⟨he, hb', ha'⟩
    refine ⟨he, ⟨?_, ?_, ?_, ?_, ?_, .inr ⟨g, T, _, h1, h2, h3, h4, h5, h6, hb', n5⟩⟩, ?_⟩
    · exact (h.bel.trans (hbA.mono h.bel.size)).trans (ha'.below (Nat.le_trans h.bel.size hbA.size) h2)
    · exact (h.b2.step hbA).alt ha' (Ne.symm h3)
    · exact (h.b5.step hbA).alt ha' (Ne.symm h4)
    · exact (h.bl.step hbA).alt ha' (Ne.symm h5)
    · exact (h.bb.step hbA).alt ha' (Ne.symm h6)
    · refine ⟨Nat.le_trans hbA.size ha'.size, fun k o _ hk ho => ?_⟩
      have hkl : k < A.heap.size := (Array.getElem?_eq_some_iff.1 hk).1
      have hkg : k ≠ g := by
        intro e1
        rw [e1, show A.heap[g]? = _ from h7] at hk
        cases hk
        cases ho
      rw [ha'.block k (Nat.lt_of_lt_of_le hkl hbA.size) hkg, hbA.block k hkl, hk]
end Od
end Go.Proofs.Ytbamhbfncddieaa

namespace Go.Proofs.Ytbamhbfncddieaa
namespace Od
open Go.RowKit

attribute [local go_sem] Oper.semAt_some
set_option maxRecDepth 100000 in
set_option maxHeartbeats 4000000 in
theorem sort_any {w : World} {b : Nat} {v : Value} {zs : List Int} (hB : Bk w b) (hS : Sl .i32 w v zs) (hn : zs.length ≤ 1000000) :
    Calls Try.prog 80 #[.pointer (some ⟨b, 0, none⟩), v] w fun e w' => ∃ v', e = .returned v' ∧ Sl .i32 w' v' (srt clsP zs) ∧ Below w.heap.size w w' := by
  have HB := hid hB
  have hb0 : Below w.heap.size w (w.alloc (.cells #[.pointer (some ⟨b, 0, none⟩)] 28)) := (Below.refl w.heap.size w).alloc (Nat.le_refl _) _
  have HC := hid (clone_any' v zs _ (hS.step hb0) hn)
  have HX0 := hid (Bx.new w (.pointer (some ⟨b, 0, none⟩)) 28)
  have Hb0 := hid hb0
  obtain ⟨ao0, cap0, rfl, hS⟩ := hS
  clear hB hS hb0
  refine (callsIn_wide (n := 6)).1 ?_
  refine callsIn_of_wp_marks Try.func80 rfl trivial ?_ rfl
  simp only [Try.ntmps80, List.size_toArray, List.length_cons, List.length_nil, Nat.reduceAdd, Nat.reduceSub, Array.replicate_succ, Array.replicate_zero, List.push_toArray, List.append_toArray, List.nil_append, List.cons_append]
  gi_wp2_with (first | (refine ⟨trivial, ?_⟩; gi_at_call 98; refine (callsIn_wide.2 HC.out).mono ?_; rintro e w1 ⟨ao, cap, rfl, hb1, hcap, hnone, hrow⟩; have HI1 := hid (And.intro hb1 (And.intro hcap (And.intro hnone hrow))); clear hb1 hcap hnone hrow; have c2 : ∀ o, (w1.alloc o).cell? ⟨w.heap.size, 0, none⟩ = some (.pointer (some ⟨b, 0, none⟩)) := fun o => ((HX0.out.step HI1.out.1).alloc o).cell) | (refine ⟨trivial, ?_⟩; gi_at_call 99; refine (callsIn_wide.2 (runs_any _ _ _ _ _)).mono ?_; rintro e w' ⟨rfl, rfl⟩))
  have HI2 : Hid (SoI w b zs ao cap w.heap.size w1.heap.size (w1.heap.size + 1 + 1) (w1.heap.size + 1) [] (((w1.alloc (.cells #[.slice ao zs.length cap] 22)).alloc (.cells #[.pointer (some ⟨b, 0, none⟩)] 28)).alloc (.cells #[.slice ao zs.length cap] 22))) := by
    obtain ⟨hb1, hcap, hnone, hrow⟩ := HI1.out
    have ha1 : Below w1.heap.size w1 (((w1.alloc (.cells #[.slice ao zs.length cap] 22)).alloc (.cells #[.pointer (some ⟨b, 0, none⟩)] 28)).alloc (.cells #[.slice ao zs.length cap] 22)) := (((Below.refl _ _).alloc (Nat.le_refl _) _).alloc (by simp) _).alloc (by simp; omega) _
    have s0 := Hb0.out.size
    have s1 := hb1.size
    have s2 : (w.alloc (.cells #[.pointer (some ⟨b, 0, none⟩)] 28)).heap.size = w.heap.size + 1 := by simp
    refine ⟨(Hb0.out.trans (hb1.mono s0)).trans (ha1.mono (by omega)), (HX0.out.step hb1).step ha1, ((Bx.new w1 _ _).alloc _).alloc _, ?_, ?_, ?_⟩
    · have := Bx.new ((w1.alloc (.cells #[.slice ao zs.length cap] 22)).alloc (.cells #[.pointer (some ⟨b, 0, none⟩)] 28)) (.slice ao zs.length cap) 22
      simpa using this
    · have := (Bx.new (w1.alloc (.cells #[.slice ao zs.length cap] 22)) (.pointer (some ⟨b, 0, none⟩)) 28).alloc (.cells #[.slice ao zs.length cap] 22)
      simpa using this
    · rcases hrow with h | ⟨g, T, h1, h2, h3⟩
      · exact .inl h
      · have := h3.lt
        exact .inr ⟨g, T, zs, h1, by omega, by omega, by omega, by omega, by omega, h3.step ha1, Upto.start _ _⟩
  have hT := runs1_tells 5 b ao cap (w1.heap.size + 1 + 1) (w1.heap.size + 1) (by omega) zs hn (((w1.alloc (.cells #[.slice ao zs.length cap] 22)).alloc (.cells #[.pointer (some ⟨b, 0, none⟩)] 28)).alloc (.cells #[.slice ao zs.length cap] 22))
  have hz0 : w.heap.size ≤ (((w1.alloc (.cells #[.slice ao zs.length cap] 22)).alloc (.cells #[.pointer (some ⟨b, 0, none⟩)] 28)).alloc (.cells #[.slice ao zs.length cap] 22)).heap.size := HI2.out.bel.size
  clear c2 HX0 Hb0 HC
  generalize (((w1.alloc (.cells #[.slice ao zs.length cap] 22)).alloc (.cells #[.pointer (some ⟨b, 0, none⟩)] 28)).alloc (.cells #[.slice ao zs.length cap] 22)) = W0 at *
  have HN := hid HI1.out.2
  clear HI1
  generalize w1.heap.size = o5 at *
  refine wpIn_told2 rfl (by omega) (gf := 110) (lb := #[.pointer (some ⟨o5 + 1 + 1, 0, none⟩), .pointer (some ⟨o5 + 1, 0, none⟩)]) rfl trivial (enters_of Try.func110 (by kernel_rfl) rfl) hT (fun _ => rfl)
    (SoI w b zs ao cap w.heap.size o5 (o5 + 1 + 1) (o5 + 1)) (fun _ _ => False) (fun pre A B h hk => h.keep hk hz0) (fun _ _ _ h _ => h) (fun pre A h => h.ne HB.out) HI2.out
    (fun x => { tmps := #[.pointer (some ⟨b, 0, none⟩), .slice ao0 zs.length cap0, .pointer (some ⟨w.heap.size, 0, none⟩), undef, .slice none 0 0, .pointer (some ⟨o5, 0, none⟩), .int .i64 (x.1 : Int), .int .i64 (x.2 : Int), .slice ao0 zs.length cap0, .slice ao zs.length cap, .pointer (some ⟨b, 0, none⟩), .slice ao zs.length cap, .func (.func 110) #[] #[.pointer (some ⟨o5 + 1 + 1, 0, none⟩), .pointer (some ⟨o5 + 1, 0, none⟩)], .int .i64 (x.1 : Int), .int .i64 (x.2 : Int), undef, undef, undef, undef, undef, undef, undef, undef], defers := [] }) ?assign ?body ?done ?stop
  case assign =>
    intro l x W K hK
    have e : (#[13, 14].zip (toldR x)).foldl (fun (t : Array Value) (p : Nat × Value) => t.setIfInBounds p.1 p.2) #[.pointer (some ⟨b, 0, none⟩), .slice ao0 zs.length cap0, .pointer (some ⟨w.heap.size, 0, none⟩), undef, .slice none 0 0, .pointer (some ⟨o5, 0, none⟩), undef, undef, .slice ao0 zs.length cap0, .slice ao zs.length cap, .pointer (some ⟨b, 0, none⟩), .slice ao zs.length cap, .func (.func 110) #[] #[.pointer (some ⟨o5 + 1 + 1, 0, none⟩), .pointer (some ⟨o5 + 1, 0, none⟩)], undef, undef, undef, undef, undef, undef, undef, undef, undef, undef] = #[.pointer (some ⟨b, 0, none⟩), .slice ao0 zs.length cap0, .pointer (some ⟨w.heap.size, 0, none⟩), undef, .slice none 0 0, .pointer (some ⟨o5, 0, none⟩), undef, undef, .slice ao0 zs.length cap0, .slice ao zs.length cap, .pointer (some ⟨b, 0, none⟩), .slice ao zs.length cap, .func (.func 110) #[] #[.pointer (some ⟨o5 + 1 + 1, 0, none⟩), .pointer (some ⟨o5 + 1, 0, none⟩)], .int .i64 (x.1 : Int), .int .i64 (x.2 : Int), undef, undef, undef, undef, undef, undef, undef, undef] := by simp [toldR]
    rw [e]
    gi_wp2
    exact hK
  case body =>
    rintro l pre ⟨f, t⟩ W hI hR
    clear hT
    have hID : SoI w b zs ao cap w.heap.size o5 (o5 + 1 + 1) (o5 + 1) pre W.drew := hI.keep (Kc.of_below ((Below.refl _ _).drew)) (Nat.le_refl _)
    obtain ⟨g, rfl, hrun⟩ := hID.run HB.out hn hR
    have HRun : Hid (∀ cap', Calls Try.prog 100 #[.slice (some ⟨g, f, none⟩) (t - f) cap', .func (.func 112) #[] #[.pointer (some ⟨W.drew.heap.size, 0, none⟩)]] (W.drew.alloc (.cells #[.pointer (some ⟨b, 0, none⟩)] 28)) fun e w' => e = .returned (.tuple #[]) ∧ Hid (goesR W0.heap.size (SoI w b zs (some ⟨g, 0, none⟩) cap w.heap.size o5 (o5 + 1 + 1) (o5 + 1)) (fun _ _ => False) (pre ++ [(f, t)]) W .normal { tmps := #[], defers := [] } w')) := fun cap' => by
      refine (hrun _ _ rfl rfl cap').mono ?_
      rintro e w' ⟨he, h1, h2⟩
      exact ⟨he, ⟨h2.size, fun k o hk => h2.same k o (by omega)⟩, h1⟩
    have c5 := hID.b5.cell
    have c2 := hID.b2.cell
    have c5a : ∀ o, (W.drew.alloc o).cell? ⟨o5, 0, none⟩ = some (.slice (some ⟨g, 0, none⟩) zs.length cap) := fun o => (hID.b5.alloc o).cell
    have q1 : f < t := hR.2.1
    have q2 : t ≤ zs.length := hR.2.2.1
    have q3 := HN.out.1
    have hmx : Try.prog.follows .mixedOrders = true := by kernel_rfl
    have c5b : ∀ o, (W.alloc o).drew.cell? ⟨o5, 0, none⟩ = some (.slice (some ⟨g, 0, none⟩) zs.length cap) := fun o => c5a o
    clear hrun hID hI hR HI2 HN
    gi_wp2_with fail
    refine region_round (F := Fence.wide) l hmx (by kernel_rfl) ?_
    refine wpAnyIn_take (i := 1) (v := .int .i64 (f : Int)) rfl rfl (by kernel_rfl) (by kernel_rfl) (by kernel_rfl) (fun _ _ _ h => h) ⟨Or.inl ⟨by rfl, by (intro w; go_simp)⟩, fun _ => rfl⟩ ?_
    refine wpAnyIn_take (i := 2) (v := .int .i64 (t : Int)) rfl rfl (by kernel_rfl) (by kernel_rfl) (by kernel_rfl) (fun _ _ _ h => h) ⟨Or.inl ⟨by rfl, by (intro w; go_simp)⟩, fun _ => rfl⟩ ?_
    refine wpAnyIn_ready (rs := [0, 4]) (by kernel_rfl) (by simp) ?_
    refine AllReadyIn.cons rfl (fun K hK => ?_) ?_
    · go_simp
      refine hK _ _ ?_
      clear hK K
      refine wpAnyIn_take (i := 3) (v := .slice (some ⟨g, f, none⟩) (t - f) (cap - f)) rfl rfl (by kernel_rfl) (by kernel_rfl) (by kernel_rfl) (fun _ _ _ h => h) ⟨Or.inl ⟨by rfl, by (intro w; go_simp; rw [if_pos (by omega), if_pos (by omega), if_neg (by omega)])⟩, fun _ => rfl⟩ ?_
      refine wpAnyIn_ready (rs := [4]) (by kernel_rfl) (by simp) ?_
      refine AllReadyIn.cons rfl (fun K hK => ?_) ?_
      · go_simp
        refine hK _ _ ?_
        clear hK K
        refine wpAnyIn_ready (rs := [5]) (by kernel_rfl) (by simp) ?_
        refine AllReadyIn.cons rfl (fun K hK => ?_) ?_
        · go_simp
          gi_wp2_with (first | (refine ⟨trivial, ?_⟩; gi_at_call 101; refine (callsIn_wide.2 (byc_any _ _)).mono ?_; rintro e W3 ⟨rfl, rfl⟩))
          try (refine hK _ _ ?_; clear hK K)
          refine wpAnyIn_ready (rs := [6]) (by kernel_rfl) (by simp) ?_
          refine AllReadyIn.cons rfl (fun K hK => ?_) AllReadyIn.nil
          go_simp
          gi_wp2_with (first | (refine ⟨trivial, ?_⟩; gi_at_call 100; refine (callsIn_wide.2 (HRun.out _)).mono ?_; rintro e W4 ⟨rfl, hend⟩))
          try (refine hK _ _ ?_; clear hK K)
          refine wpAnyIn_done (by kernel_rfl) ?_ _
          exact hend.out
        exact AllReadyIn.nil
      exact AllReadyIn.nil
    refine AllReadyIn.cons rfl (fun K hK => ?_) ?_
    · go_simp
      refine hK _ _ ?_
      clear hK K
      refine wpAnyIn_ready (rs := [0, 5]) (by kernel_rfl) (by simp) ?_
      refine AllReadyIn.cons rfl (fun K hK => ?_) ?_
      · go_simp
        refine hK _ _ ?_
        clear hK K
        refine wpAnyIn_take (i := 3) (v := .slice (some ⟨g, f, none⟩) (t - f) (cap - f)) rfl rfl (by kernel_rfl) (by kernel_rfl) (by kernel_rfl) (fun _ _ _ h => h) ⟨Or.inl ⟨by rfl, by (intro w; go_simp; rw [if_pos (by omega), if_pos (by omega), if_neg (by omega)])⟩, fun _ => rfl⟩ ?_
        refine wpAnyIn_ready (rs := [5]) (by kernel_rfl) (by simp) ?_
        refine AllReadyIn.cons rfl (fun K hK => ?_) ?_
        · go_simp
          gi_wp2_with (first | (refine ⟨trivial, ?_⟩; gi_at_call 101; refine (callsIn_wide.2 (byc_any _ _)).mono ?_; rintro e W3 ⟨rfl, rfl⟩))
          try (refine hK _ _ ?_; clear hK K)
          refine wpAnyIn_ready (rs := [6]) (by kernel_rfl) (by simp) ?_
          refine AllReadyIn.cons rfl (fun K hK => ?_) AllReadyIn.nil
          go_simp
          gi_wp2_with (first | (refine ⟨trivial, ?_⟩; gi_at_call 100; refine (callsIn_wide.2 (HRun.out _)).mono ?_; rintro e W4 ⟨rfl, hend⟩))
          try (refine hK _ _ ?_; clear hK K)
          refine wpAnyIn_done (by kernel_rfl) ?_ _
          exact hend.out
        exact AllReadyIn.nil
      refine AllReadyIn.cons rfl (fun K hK => ?_) ?_
      · go_simp
        gi_wp2_with (first | (refine ⟨trivial, ?_⟩; gi_at_call 101; refine (callsIn_wide.2 (byc_any _ _)).mono ?_; rintro e W3 ⟨rfl, rfl⟩))
        try (refine hK _ _ ?_; clear hK K)
        refine wpAnyIn_ready (rs := [0]) (by kernel_rfl) (by simp) ?_
        refine AllReadyIn.cons rfl (fun K hK => ?_) ?_
        · go_simp
          refine hK _ _ ?_
          clear hK K
          refine wpAnyIn_take (i := 3) (v := .slice (some ⟨g, f, none⟩) (t - f) (cap - f)) rfl rfl (by kernel_rfl) (by kernel_rfl) (by kernel_rfl) (fun _ _ _ h => h) ⟨Or.inl ⟨by rfl, by (intro w; go_simp; rw [if_pos (by omega), if_pos (by omega), if_neg (by omega)])⟩, fun _ => rfl⟩ ?_
          refine wpAnyIn_ready (rs := [6]) (by kernel_rfl) (by simp) ?_
          refine AllReadyIn.cons rfl (fun K hK => ?_) AllReadyIn.nil
          go_simp
          gi_wp2_with (first | (refine ⟨trivial, ?_⟩; gi_at_call 100; refine (callsIn_wide.2 (HRun.out _)).mono ?_; rintro e W4 ⟨rfl, hend⟩))
          try (refine hK _ _ ?_; clear hK K)
          refine wpAnyIn_done (by kernel_rfl) ?_ _
          exact hend.out
        exact AllReadyIn.nil
      exact AllReadyIn.nil
    exact AllReadyIn.nil
  case done =>
    rintro D xs W hD hS hI hK
    clear hT
    have c5 := hI.b5.cell
    have HI := hid hI
    clear hI
    gi_wp2
    refine ⟨by simp, .inl ⟨_, _, rfl, run_takeDeferred hK, ?_⟩⟩
    refine ⟨_, results_tmp rfl _ _ _, ?_⟩
    have hI := HI.out.keep (Kc.grown (N := W0.heap.size) (grownBy_putObj' W D (.deferred none)) (fun r e => by cases e; exact ⟨hD, _, hK, rfl⟩)) hz0
    refine ⟨.slice ao zs.length cap, rfl, ?_, hI.bel⟩
    have hlen : (srt clsP zs).length = zs.length := (sw_srt clsP zs).len
    refine ⟨ao, cap, by rw [hlen], by rw [hlen]; exact HN.out.1, fun e => by rw [hlen]; exact HN.out.2.1 e, fun j hj => ?_⟩
    rcases hI.row with h | ⟨g, T, R, h1, h2, _, _, _, _, h7, h8⟩
    · subst h; simp [srt] at hj
    · have hR := h8.fin hS
      subst hR
      refine ⟨g, 0, h1, h7.lt, ?_⟩
      rw [Nat.zero_add]
      exact h7.cell _ _ (List.getElem?_eq_getElem hj)
  case stop => intro D xs W _ h; exact h.elim
end Od
end Go.Proofs.Ytbamhbfncddieaa
