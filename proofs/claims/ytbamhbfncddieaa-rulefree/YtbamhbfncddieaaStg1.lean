import Derived.Test.YtbamhbfncddieaaStg0
import Derived.Defers
import Derived.Recover
import Derived.Laws.Pointers
import Derived.Laws.StructEq
import Derived.BigQuiet
import Derived.Deep.QuietTactic
import Derived.Deep.RegionHeld3
import Derived.Deep.AppendLies
import Derived.Deep.LoopGhost
import Derived.Deep.RegionWith
namespace Go.Proofs.Ytbamhbfncddieaa.Uc
open Go.RowKit

theorem own_slice {w : World} {B n size : Nat} {e : TypeId} {v : Value} {xs : List Value} (h : w.ownsRow B e size v n xs) : ∃ ao cap, v = .slice ao n cap := by
  rcases h.2 with ⟨h1, h2⟩ | ⟨g, cap, cur, rfl, _⟩
  · exact ⟨none, 0, by rw [h1, h2]⟩
  · exact ⟨_, _, rfl⟩

/-- What a code point has. -/
structure Tr where
  a : Int
  b : Int
  c : Int
  d : Int
  e : Int

def trs (x : Tr) : List Value := [.int .i64 x.a, .int .i64 x.b, .int .i64 x.c, .int .i64 x.d, .int .i64 x.e]
def trv (x : Tr) : Value := .agg #[.int .i64 x.a, .int .i64 x.b, .int .i64 x.c, .int .i64 x.d, .int .i64 x.e]

theorem trs_at : ∀ (l : List Tr) (j : Nat) (h : j < l.length), (l.flatMap trs)[j * 5]? = some (.int .i64 l[j].a) ∧ (l.flatMap trs)[j * 5 + 1]? = some (.int .i64 l[j].b) ∧ (l.flatMap trs)[j * 5 + 2]? = some (.int .i64 l[j].c) ∧ (l.flatMap trs)[j * 5 + 3]? = some (.int .i64 l[j].d) ∧ (l.flatMap trs)[j * 5 + 4]? = some (.int .i64 l[j].e)
  | [], _, h => by simp at h
  | x :: l, 0, _ => by simp [trs]
  | x :: l, j + 1, h => by
    have := trs_at l j (by simpa using h)
    have e : (j + 1) * 5 = j * 5 + 1 + 1 + 1 + 1 + 1 := by omega
    have e1 : (j + 1) * 5 + 1 = j * 5 + 1 + 1 + 1 + 1 + 1 + 1 := by omega
    have e2 : (j + 1) * 5 + 2 = j * 5 + 2 + 1 + 1 + 1 + 1 + 1 := by omega
    have e3 : (j + 1) * 5 + 3 = j * 5 + 3 + 1 + 1 + 1 + 1 + 1 := by omega
    have e4 : (j + 1) * 5 + 4 = j * 5 + 4 + 1 + 1 + 1 + 1 + 1 := by omega
    rw [e1, e2, e3, e4, e]
    simpa [List.flatMap_cons, trs] using this

/-- A slice that owns the row of these. -/
abbrev Own1 (w : World) (B : Nat) (v : Value) (l : List Tr) : Prop := w.ownsRow B 60 5 v l.length (l.flatMap trs)

/-- The five cells at a place. -/
def At5 (w : World) (g o : Nat) (x : Tr) : Prop :=
  w.cell? ⟨g, o, none⟩ = some (.int .i64 x.a) ∧ w.cell? ⟨g, o + 1, none⟩ = some (.int .i64 x.b) ∧ w.cell? ⟨g, o + 2, none⟩ = some (.int .i64 x.c) ∧ w.cell? ⟨g, o + 3, none⟩ = some (.int .i64 x.d) ∧ w.cell? ⟨g, o + 4, none⟩ = some (.int .i64 x.e)
theorem At5.of_block {w w' : World} {g o : Nat} {x : Tr} (h : At5 w g o x) (e : w'.heap[g]? = w.heap[g]?) : At5 w' g o x := by
  unfold At5
  rw [World.cell?_of_block (a := ⟨g, o, none⟩) e, World.cell?_of_block (a := ⟨g, o + 1, none⟩) e, World.cell?_of_block (a := ⟨g, o + 2, none⟩) e, World.cell?_of_block (a := ⟨g, o + 3, none⟩) e, World.cell?_of_block (a := ⟨g, o + 4, none⟩) e]; exact h
theorem At5.new (w : World) (x : Tr) (t : TypeId) : At5 (w.alloc (.cells #[.int .i64 x.a, .int .i64 x.b, .int .i64 x.c, .int .i64 x.d, .int .i64 x.e] t)) w.heap.size 0 x := by
  have h := heap_alloc_new w (.cells #[.int .i64 x.a, .int .i64 x.b, .int .i64 x.c, .int .i64 x.d, .int .i64 x.e] t)
  unfold At5
  rw [cell_of_row _ _ _ _ _ _ h, cell_of_row _ _ _ _ _ _ h, cell_of_row _ _ _ _ _ _ h, cell_of_row _ _ _ _ _ _ h, cell_of_row _ _ _ _ _ _ h]
  exact ⟨rfl, rfl, rfl, rfl, rfl⟩

theorem Own1.open {w : World} {B : Nat} {v : Value} {l : List Tr} (h : Own1 w B v l) : ∃ ao cap, v = .slice ao l.length cap ∧ ∀ j (hj : j < l.length), ∃ g, ao = some ⟨g, 0, none⟩ ∧ g < w.heap.size ∧ At5 w g (j * 5) l[j] := by
  rcases h.2 with ⟨h1, h2⟩ | ⟨g, cap, cur, rfl, h2, h3, h4, h5, h6, h7⟩
  · refine ⟨none, 0, by rw [h1, h2], fun j hj => ?_⟩
    omega
  · refine ⟨_, cap, rfl, fun j hj => ⟨g, rfl, (Array.getElem?_eq_some_iff.1 h3).1, ?_⟩⟩
    obtain ⟨e0, e1, e2, e3, e4⟩ := trs_at l j hj
    unfold At5
    rw [h.cellAt (j * 5) (by omega), h.cellAt (j * 5 + 1) (by omega), h.cellAt (j * 5 + 2) (by omega), h.cellAt (j * 5 + 3) (by omega), h.cellAt (j * 5 + 4) (by omega)]
    exact ⟨e0, e1, e2, e3, e4⟩

theorem Try.heldTr : Try.prog.stoodInHeld 60 = false := by kernel_rfl
theorem Try.guardTr : Try.prog.eqGuardType Try.prog.depth 60 = false := by kernel_rfl
def eqTr (x y : Tr) : Bool := x.a == y.a && (x.b == y.b && (x.c == y.c && (x.d == y.d && x.e == y.e)))
theorem eqTr_iff (x y : Tr) : eqTr x y = true ↔ x = y := by
  obtain ⟨a, b, c, d, e⟩ := x
  obtain ⟨a', b', c', d', e'⟩ := y
  simp [eqTr]

theorem run_eqTr (w : World) (x y : Tr) : (Op.equalIn 10000 60 (.agg #[.int .i64 x.a, .int .i64 x.b, .int .i64 x.c, .int .i64 x.d, .int .i64 x.e]) (.agg #[.int .i64 y.a, .int .i64 y.b, .int .i64 y.c, .int .i64 y.d, .int .i64 y.e])).run Try.prog w = .ok (eqTr x y) w := by
  have hu : Try.prog.underlying 60 = some (.struct (Try.prog.fieldsOf 60)) := by
    unfold Program.fieldsOf
    rw [Try.underlying60]
  rw [show 10000 = 9999 + 1 from rfl, run_equalIn_struct w 9999 60 _ _ hu Try.heldTr]
  have hp : ∀ (cs : Array Value) (off : Nat) (w : World), (part 3 cs off).run Try.prog w = (match cs[off]? with | some v => Result.ok v w | none => (part 3 cs off).run Try.prog w) := fun cs off w => by
    cases h : cs[off]? with
    | none => rfl
    | some v => simp [part, isAgg, run_underlying Try.underlying3, h]
  have he : ∀ (a b : Int) (w : World), (Op.equalIn 9999 3 (.int .i64 a) (.int .i64 b)).run Try.prog w = .ok (a == b) w := fun a b w => run_equalIn_int w 9998 3 .i64 .i64 a b Try.underlying3
  unfold Program.fieldsOf
  rw [Try.underlying60]
  unfold eqTr
  cases h1 : x.a == y.a <;> cases h2 : x.b == y.b <;> cases h3 : x.c == y.c <;> cases h4 : x.d == y.d <;> cases h5 : x.e == y.e <;> simp [Op.eqFields, hp, he, h1, h2, h3, h4, h5]

set_option maxHeartbeats 2000000 in
theorem index_any {w : World} {B : Nat} {v : Value} {l : List Tr} (h : Own1 w B v l) (hl : l.length ≤ 100000) (x : Tr) :
    Calls Try.prog 106 #[v, trv x] w fun e w' => Below w.heap.size w w' ∧ ((∃ n : Nat, e = .returned (.int .i64 n) ∧ l[n]? = some x) ∨ (e = .returned (.int .i64 (-1)) ∧ x ∉ l)) := by
  obtain ⟨ao, cap, rfl, hc⟩ := h.open
  have HC := hid hc
  clear hc h
  have HN := hid (At5.new w x 60)
  have HB0 := hid ((Below.refl w.heap.size w).alloc (Nat.le_refl _) (.cells #[.int .i64 x.a, .int .i64 x.b, .int .i64 x.c, .int .i64 x.d, .int .i64 x.e] 60))
  unfold trv
  go_enter Try.func106, Try.ntmps106
  go_wp2
  generalize w.alloc (.cells #[.int .i64 x.a, .int .i64 x.b, .int .i64 x.c, .int .i64 x.d, .int .i64 x.e] 60) = W1 at *
  go_loopg [8] l.length (fun g i wr => ∃ k n : Nat, k ≤ l.length ∧ g = l.length - k ∧ i = .int .i64 k ∧ wr = W1.drewN n ∧ Hid (∀ j, j < k → l[j]? ≠ some x))
  case atStart => exact ⟨0, 0, Nat.zero_le _, by omega, rfl, rfl, fun j hj => absurd hj (Nat.not_lt_zero _)⟩
  case round =>
    obtain ⟨k, n, hk, hg, rfl, rfl, hin⟩ := hrel
    have HG := hid hg
    clear hg
    by_cases hlt : k < l.length
    · obtain ⟨g, rfl, hgl, hat⟩ := HC.out k hlt
      have hat1 := hat.of_block (HB0.out.block g hgl)
      have hnw := HN.out
      have b1 : (0 : Int) ≤ k ∧ (k : Int) < (l.length : Int) := by omega
      have hkx : Hid (l[k]? = some l[k]) := List.getElem?_eq_getElem hlt
      generalize l[k] = y at *
      clear hat HC
      obtain ⟨c0, c1, c2, c3, c4⟩ := hat1
      obtain ⟨d0, d1, d2, d3, d4⟩ := hnw
      simp only [Nat.zero_add] at d1 d2 d3 d4
      have hgd := Try.guardTr
      have heq : ∀ w, _ := fun w => run_eqTr w x y
      by_cases hxy : x = y
      · have he1 : eqTr x y = true := (eqTr_iff x y).2 hxy
        rw [he1] at heq
        have HK : Hid (l[k]? = some x) := by rw [hxy]; exact hkx.out
        have HBW := hid (fun m => below_drewN HB0.out m)
        clear he1 hkx hxy hin HG
        go_wp2_with fail
        go_quiet (fail)
        go_wp2_with fail
        go_ret
        exact ⟨below_drewN (below_drewN HB0.out _) _, .inl ⟨k, rfl, HK.out⟩⟩
      · have he1 : eqTr x y = false := by
          cases h : eqTr x y with
          | false => rfl
          | true => exact absurd ((eqTr_iff x y).1 h) hxy
        rw [he1] at heq
        have H : Hid (∀ j, j < k + 1 → l[j]? ≠ some x) := by
          intro j hj e
          by_cases e1 : j = k
          · subst e1
            rw [hkx.out] at e
            exact hxy (Option.some.inj e).symm
          · exact hin.out j (by omega) e
        clear he1 hkx hxy hin
        go_wp2_with fail
        go_quiet (fail)
        go_wp2_with fail
        go_roundg (l.length - (k + 1))
        case measure => rw [HG.out]; omega
        case rel => exact ⟨k + 1, _, by omega, rfl, by go_num, by first | rfl | exact World.drewN_drewN _ _ _, H⟩
    · have H : Hid (x ∉ l) := by
        intro hm
        obtain ⟨j, hj⟩ := List.mem_iff_getElem?.1 hm
        exact hin.out j (by have := (List.getElem?_eq_some_iff.1 hj).1; omega) hj
      have e : k = l.length := by omega
      subst e
      clear hin HC
      go_wp2_with fail
      go_ret
      exact ⟨below_drewN HB0.out _, .inr ⟨rfl, H.out⟩⟩

theorem catch_idle (p : Addr) (w : World) :
    CallsD Try.prog 105 #[.pointer (some p)] .returning w fun e u' w' => e = .returned (.tuple #[]) ∧ u' = .returning ∧ w' = w := by
  refine callsD_of_wpS Try.func105 rfl fun c₀ cs hu => ?_
  apply wpS_seq
  apply wpS_region
  simp [wpOpsS, go_sem, recoverD, hu, Try.ntmps105, Exit.thenS]
  refine wpS_cond (t := false) (by simp [Act.eval, Array.replicate]) ?_
  simp only [Bool.false_eq_true, if_false]
  refine wpS_of_wp (wp_skip ?_)
  cases c₀
  simp_all [bodyPostS, results, Try.results105]

/-- The cells of a box. -/
def boxT (x : Tr) : Obj := .cells #[.int .i64 x.a, .int .i64 x.b, .int .i64 x.c, .int .i64 x.d, .int .i64 x.e] 60

theorem find_any {w : World} {B : Nat} {v : Value} {l : List Tr} (h : Own1 w B v l) (hl : l.length ≤ 100000) (x : Tr) :
    Calls Try.prog 93 #[v, trv x] w fun e w' => Below w.heap.size w w' ∧ ((∃ n : Nat, e = .returned (.int .i64 n) ∧ l[n]? = some x) ∨ (e = .returned (.int .i64 (-1)) ∧ x ∉ l)) := by
  have hmf : ∀ (fn : Fn) (first cap : Array Value) (w : World), (Instr.makeFunc fn first cap).run Try.prog w = .ok (.func fn first cap) w := fun _ _ _ _ => rfl
  have HI := hid (index_any ((h.alloc (boxT x)).alloc (.cells #[.int .i64 0] 3)) hl x)
  have HB : Hid (Below w.heap.size w ((w.alloc (boxT x)).alloc (.cells #[.int .i64 0] 3))) := ((Below.refl _ _).alloc (Nat.le_refl _) _).alloc (by simp) _
  have hblk : Hid (((w.alloc (boxT x)).alloc (.cells #[.int .i64 0] 3)).heap[w.heap.size + 1]? = some (.cells #[.int .i64 0] 3)) := by
    show _ = _
    have := heap_alloc_new (w.alloc (boxT x)) (.cells #[.int .i64 0] 3)
    simpa using this
  have hsz : Hid (w.heap.size + 1 < ((w.alloc (boxT x)).alloc (.cells #[.int .i64 0] 3)).heap.size) := by show _ < _; simp
  clear h
  unfold trv boxT at *
  go_enter_defers Try.func93, Try.ntmps93
  go_wp2_with fail
  generalize (w.alloc (.cells #[.int .i64 x.a, .int .i64 x.b, .int .i64 x.c, .int .i64 x.d, .int .i64 x.e] 60)).alloc (.cells #[.int .i64 0] 3) = W1 at *
  refine HI.out.mono ?_
  rintro e w' ⟨hb', ⟨n, rfl, hn⟩ | ⟨rfl, hn⟩⟩
  all_goals
    have hb2 := hb'.block (w.heap.size + 1) hsz.out
    rw [hblk.out] at hb2
    have c0 : w'.cell? ⟨w.heap.size + 1, 0, none⟩ = some (.int .i64 0) := by simp [World.cell?, hb2]
    have f0 : w'.frozen? ⟨w.heap.size + 1, 0, none⟩ = false := by simp [World.frozen?, hb2]
    have HB2 := hid (HB.out.trans (hb'.mono (Nat.le_of_lt (Nat.lt_of_succ_lt hsz.out))))
    clear hb' hblk HI
    go_wp2_with fail
    refine leaves_cons (f := 105) (args := #[.pointer (some ⟨w.heap.size + 1, 0, none⟩)]) (by simp) (by simp [go_sem]) ?_
    refine (catch_idle ⟨w.heap.size + 1, 0, none⟩ _).mono ?_
    rintro e u' w'' ⟨rfl, rfl, rfl⟩
  · have hc : (w'.setCell ⟨w.heap.size + 1, 0, none⟩ (.int .i64 n)).cell? ⟨w.heap.size + 1, 0, none⟩ = some (.int .i64 n) := World.cell?_setCell_same _ _ _ c0
    simp [Leaves, settle, results, Try.results93, go_sem, hc]
    exact ⟨HB2.out.setCell (p := ⟨w.heap.size + 1, 0, none⟩) (by simp) _, n, rfl, hn⟩
  · have hc : (w'.setCell ⟨w.heap.size + 1, 0, none⟩ (.int .i64 (-1))).cell? ⟨w.heap.size + 1, 0, none⟩ = some (.int .i64 (-1)) := World.cell?_setCell_same _ _ _ c0
    simp [Leaves, settle, results, Try.results93, go_sem, hc]
    exact ⟨HB2.out.setCell (p := ⟨w.heap.size + 1, 0, none⟩) (by simp) _, hn⟩

theorem Try.info_tr : (Try.prog.info? 60).map (fun i => (i.zero, i.size, i.bytes)) = some (some (.agg #[.int .i64 0, .int .i64 0, .int .i64 0, .int .i64 0, .int .i64 0]), 5, 40) := by kernel_rfl

/-- The values that a table keeps. -/
structure Vals (w : World) (B p : Nat) (f : Nat → Value) (l : List Tr) : Prop where
  row : w.rowIs p 105 4354 f
  own : Own1 w B (f 0) l
  apart : (f 0).ownBlock ≠ some p

theorem Own1.step {w w' : World} {B : Nat} {v : Value} {l : List Tr} (h : Own1 w B v l) (hb : ∀ k, v.ownBlock = some k → w'.heap[k]? = w.heap[k]?) : Own1 w' B v l := by
  refine ⟨h.1, ?_⟩
  rcases h.2 with h1 | ⟨g, cap, cur, e, h2, h3, h4⟩
  · exact .inl h1
  · exact .inr ⟨g, cap, cur, e, h2, by rw [hb g (by rw [e]; rfl)]; exact h3, h4⟩

theorem Vals.step {w w' : World} {B p : Nat} {f : Nat → Value} {l : List Tr} (h : Vals w B p f l) (hb : Below w.heap.size w w') : Vals w' B p f l :=
  ⟨h.row.of_block (hb.block p h.row.lt), h.own.step (fun k hk => hb.block k (h.own.lt k hk).2), h.apart⟩

/-- What keep leaves. -/
def Kept (w : World) (B p : Nat) (f : Nat → Value) (l : List Tr) (x : Tr) (e : Ending) (w' : World) : Prop :=
  ∃ (n : Nat) (v : Value) (l' : List Tr), e = .returned (.int .u16 n) ∧ l'[n]? = some x ∧ ((l' = l ∧ x ∈ l) ∨ (l' = l ++ [x] ∧ x ∉ l)) ∧ Vals w' B p (fun j => if j = 0 then v else f j) l' ∧
    Chg (fun k => k = p ∨ (f 0).ownBlock = some k) w w' ∧ (v.ownBlock = (f 0).ownBlock ∨ ∃ g, v.ownBlock = some g ∧ w.heap.size ≤ g)

theorem wrap_u16 (n : Int) (h : 0 ≤ n) (h' : n < 65536) : IntKind.u16.wrap n = n := by
  simp [IntKind.wrap, IntKind.bits, IntKind.signed]; omega

theorem keep_end {w w1 w2 : World} {B p : Nat} {f : Nat → Value} {l : List Tr} {x : Tr} {v0 v' : Value} (h : Vals w1 B p f l) (hv : f 0 = v0) (hb : Below w.heap.size w w1) (hx : x ∉ l)
    (ho : w2.ownsRow B 60 5 v' (l.length + 1) (l.flatMap trs ++ trs x)) (hg : (w1.drew.alloc (boxT x)).grownBy w2 v0.ownBlock) (hs : v'.ownBlock = v0.ownBlock ∨ v'.ownBlock = some (w1.heap.size + 1)) :
    w2.cell? ⟨p, 0, none⟩ = some v0 ∧ w2.frozen? ⟨p, 0, none⟩ = false ∧ Hid (Kept w B p f l x (.returned (.int .u16 l.length)) (w2.setCell ⟨p, 0, none⟩ v')) := by
  subst hv
  have hlt := h.row.lt
  have hblk : w2.heap[p]? = w1.heap[p]? := (hg.block p (by simp; omega) (fun e => h.apart e.symm)).trans (Below.heap_alloc w1.drew _ _ hlt)
  have hr := h.row.of_block hblk
  have hne : v'.ownBlock ≠ some p := by
    rcases hs with e | e
    · rw [e]; exact h.apart
    · rw [e]; simp; omega
  refine ⟨hr.cell (by omega), hr.frozen 0, l.length, v', l ++ [x], rfl, by simp, .inr ⟨rfl, hx⟩, ⟨hr.set 0 v', ?_, ?_⟩, ?_, ?_⟩
  · show Own1 _ B (if 0 = 0 then v' else f 0) _
    rw [if_pos rfl]
    have ho' : Own1 w2 B v' (l ++ [x]) := by
      show w2.ownsRow _ _ _ _ _ _
      rw [List.flatMap_append, List.length_append]; simpa using ho
    exact ho'.step (fun k hk => Below.heap_setCell _ _ _ _ (fun e => hne (by rw [hk, e])))
  · show (if 0 = 0 then v' else f 0).ownBlock ≠ _
    rw [if_pos rfl]; exact hne
  · have c1 : Chg (fun k => k = p ∨ (f 0).ownBlock = some k) w (w1.drew.alloc (boxT x)) := (Chg.of_below hb).drew.alloc _
    exact (c1.grown hg (fun k hk _ => .inr hk)).setCell (fun _ => .inl rfl) _
  · rcases hs with e | e
    · exact .inl e
    · exact .inr ⟨_, e, by have := hb.size; omega⟩

theorem trs_one (x : Tr) : ∀ u ∈ trs x, u.oneCell' = true := fun u hu => by
  simp [trs] at hu
  rcases hu with rfl | rfl | rfl | rfl | rfl <;> rfl

theorem step_tr_append {ops : Array Oper} {o : Oper} {a : Act} {K : Act → World → Prop} {Q : Exit → Act → World → Prop} {E : Prop} (hgd : o.guard = none) (s y : Operand)
    (ho : o.op = .call { callee := .builtin .append, args := #[s, y], argTypes := #[100, 100] }) (W : World) (B n : Nat) (v : Value) (xs : List Value) (x : Tr) (hs : a.eval s = v) (hy : a.eval y = .slice (some ⟨W.heap.size, 0, none⟩) 1 1)
    (hown : W.ownsRow B 60 5 v n xs) (hn : n ≤ 5000) (hB : B ≤ W.heap.size)
    (h : ∀ g cap w', w'.ownsRow B 60 5 (.slice (some ⟨g, 0, none⟩) (n + 1) cap) (n + 1) (xs ++ trs x) → (W.alloc (boxT x)).grownBy w' v.ownBlock → (v.ownBlock = some g ∨ g = W.heap.size + 1) → K (a.put o.dst (.slice (some ⟨g, 0, none⟩) (n + 1) cap)) w') :
    if Region.wanted o (yielded ops a.tmps) = true then Oper.wp Try.prog o a (W.alloc (boxT x)) K Q else E := by
  obtain ⟨i0, hi, hz0, hz1, hz2⟩ := info_parts Try.info_tr
  refine step_append_lies (P := Try.prog) _ hgd s y 100 ho B 60 i0 _ 5 40 Try.underlying100 hi hz0 hz1 hz2 rfl (by decide) v n xs hs (hown.alloc _) ⟨W.heap.size, 0, none⟩ 1 1 (trs x) hy rfl
    (World.news_of_block (heap_alloc_new W (boxT x))) (trs_one x) (by omega) (by unfold maxLen; omega) (by omega) (by simp; omega) (W.heap.size + 1) (by simp) (fun g cap w' h1 h2 h3 _ => h g cap w' h1 h2 h3)

theorem found {l : List Tr} {x : Tr} {e : Ending} (h : (∃ n : Nat, e = .returned (.int .i64 n) ∧ l[n]? = some x) ∨ (e = .returned (.int .i64 (-1)) ∧ x ∉ l)) : ∃ r : Int, e = .returned (.int .i64 r) ∧ ((∃ n : Nat, r = n ∧ l[n]? = some x) ∨ (r = -1 ∧ x ∉ l)) := by
  rcases h with ⟨n, h1, h2⟩ | ⟨h1, h2⟩
  · exact ⟨n, h1, .inl ⟨n, rfl, h2⟩⟩
  · exact ⟨-1, h1, .inr ⟨rfl, h2⟩⟩

set_option maxHeartbeats 4000000 in
set_option maxRecDepth 100000 in
theorem keep_any {w : World} {B p : Nat} {f : Nat → Value} {l : List Tr} (h : Vals w B p f l) (hl : l.length ≤ 5000) (hB : B ≤ w.heap.size) (x : Tr) :
    Calls Try.prog 77 #[.pointer (some ⟨p, 0, none⟩), trv x] w (Kept w B p f l x) := by
  have hb0 : Below w.heap.size w (w.alloc (boxT x)) := (Below.refl _ _).alloc (Nat.le_refl _) _
  have hV := h.step hb0
  have c0 := hV.row.cell (i := 0) (by omega)
  obtain ⟨ao, cap, hv, _⟩ := hV.own.open
  have HF := hid (find_any (hV.step (Below.refl _ _).drew).own (by omega) x)
  rw [hv] at c0 HF
  have HN : Hid (At5 (w.alloc (boxT x)) w.heap.size 0 x) := At5.new w x _
  have hlt : Hid (w.heap.size < (w.alloc (boxT x)).heap.size) := by show _ < _; simp
  have HV := hid hV
  have HE := hid hv
  have HB0 := hid hb0
  clear h hV hv hb0
  unfold trv
  go_enter Try.func77, Try.ntmps77
  go_wp2_with fail
  have eb : w.alloc (.cells #[.int .i64 x.a, .int .i64 x.b, .int .i64 x.c, .int .i64 x.d, .int .i64 x.e] 60) = w.alloc (boxT x) := rfl
  rw [eb]
  clear eb
  generalize w.alloc (boxT x) = W1 at *
  obtain ⟨s0, s1, s2, s3, s4⟩ := HN.out
  simp only [Nat.zero_add] at s1 s2 s3 s4
  unfold trv at HF
  have HS2 : Hid (∀ w2 : World, Below W1.drew.heap.size W1.drew w2 → At5 w2 w.heap.size 0 x ∧ w2.cell? ⟨p, 0, none⟩ = some (.slice ao l.length cap)) := fun w2 hb =>
    ⟨HN.out.of_block (hb.block _ hlt.out), (hb.cell (p := ⟨p, 0, none⟩) HV.out.row.lt).trans c0⟩
  go_region_held3 (fun w' => w'.cell? ⟨p, 0, none⟩ = some (.slice ao l.length cap) ∧ w'.cell? ⟨w.heap.size, 0, none⟩ = some (.int .i64 x.a) ∧ w'.cell? ⟨w.heap.size, 1, none⟩ = some (.int .i64 x.b) ∧ w'.cell? ⟨w.heap.size, 2, none⟩ = some (.int .i64 x.c) ∧ w'.cell? ⟨w.heap.size, 3, none⟩ = some (.int .i64 x.d) ∧ w'.cell? ⟨w.heap.size, 4, none⟩ = some (.int .i64 x.e))
    (first | exact ⟨c0, s0, s1, s2, s3, s4⟩ | exact ⟨k0, t0, t1, t2, t3, t4⟩)
    ((go_at_call 93; refine HF.out.mono ?_; rintro e w2 ⟨hb2, he2⟩; obtain ⟨r, rfl, hr⟩ := found he2; obtain ⟨⟨t0, t1, t2, t3, t4⟩, k0⟩ := HS2.out w2 hb2; simp only [Nat.zero_add] at t1 t2 t3 t4; have HB2 := hid hb2; have HR := hid hr; clear hb2 he2 hr))
  rcases HR.out with ⟨n, hrn, hn⟩ | ⟨hrn, hn⟩
  · have hB12 : Below w.heap.size w w2 := HB0.out.trans ((show Below W1.heap.size W1 w2 from ⟨HB2.out.os, HB2.out.tape, HB2.out.output, HB2.out.size, HB2.out.block⟩).mono HB0.out.size)
    have H : Hid (Kept w B p f l x (.returned (.int .u16 n)) w2) := by
      refine ⟨n, f 0, l, rfl, hn, .inl ⟨rfl, List.mem_of_getElem? hn⟩, ?_, .of_below hB12, .inl rfl⟩
      have := (HV.out.step (w' := W1.drew) (Below.refl _ _).drew).step HB2.out
      have e : (fun j => if j = 0 then f 0 else f j) = f := by funext j; split <;> simp_all
      rw [e]; exact this
    have hlt2 : n < l.length := (List.getElem?_eq_some_iff.1 hn).1
    subst hrn
    have h1 : ¬ (n : Int) < 0 := by omega
    have h2 : IntKind.u16.wrap (n : Int) = (n : Int) := wrap_u16 _ (by omega) (by omega)
    clear hn HR HB2 HV HE c0 HF HS2 s0 s1 s2 s3 s4 t0 t1 t2 t3 t4 k0 hB12
    go_wp2_with fail
    go_ret
    exact H.out
  · subst hrn
    have hB12 : Below w.heap.size w w2 := HB0.out.trans ((show Below W1.heap.size W1 w2 from ⟨HB2.out.os, HB2.out.tape, HB2.out.output, HB2.out.size, HB2.out.block⟩).mono HB0.out.size)
    have HV2 := hid ((HV.out.step (w' := W1.drew) (Below.refl _ _).drew).step HB2.out)
    have HK := hid (fun (w3 : World) (v' : Value) => keep_end (w := w) (w2 := w3) (v' := v') HV2.out HE.out hB12 hn)
    have HO : Hid (w2.drew.ownsRow B 60 5 (.slice ao l.length cap) l.length (l.flatMap trs)) := by
      have := HV2.out.own
      rw [HE.out] at this; exact this
    have hsz : Hid (B ≤ w2.drew.heap.size) := Nat.le_trans hB hB12.size
    have h2 : IntKind.u16.wrap (l.length : Int) = (l.length : Int) := wrap_u16 _ (by omega) (by omega)
    have hp2 : Hid (∀ o, (w2.alloc o).cell? ⟨p, 0, none⟩ = some (.slice ao l.length cap)) := fun o => (World.cell?_alloc_lt w2 o ⟨p, 0, none⟩ (World.block_lt_of_cell? w2 _ k0)).trans k0
    clear hn HR HB2 HV c0 HF HS2 s0 s1 s2 s3 s4 HN
    have hp2' := hp2.out
    go_wp2_with fail
    refine wp_region_held_drew (S := fun _ => True) (by kernel_rfl) trivial (fun _ => ?_)
    refine wpAnyH_take (i := 0) (v := .pointer (some ⟨p, 0, none⟩)) rfl (by kernel_rfl) (by kernel_rfl) (by kernel_rfl) (fun _ _ _ h => h) (Or.inl ⟨by rfl, by (intro w _; go_simp)⟩) trivial ?_
    refine wpAnyH_take (i := 1) (v := .pointer (some ⟨p, 0, none⟩)) rfl (by kernel_rfl) (by kernel_rfl) (by kernel_rfl) (fun _ _ _ h => h) (Or.inl ⟨by rfl, by (intro w _; go_simp)⟩) trivial ?_
    refine wpAnyH_take (i := 2) (v := .pointer (some ⟨p, 0, none⟩)) rfl (by kernel_rfl) (by kernel_rfl) (by kernel_rfl) (fun _ _ _ h => h) (Or.inl ⟨by rfl, by (intro w _; go_simp)⟩) trivial ?_
    refine wpAnyH_take (i := 3) (v := .pointer (some ⟨p, 0, none⟩)) rfl (by kernel_rfl) (by kernel_rfl) (by kernel_rfl) (fun _ _ _ h => h) (Or.inl ⟨by rfl, by (intro w _; go_simp)⟩) trivial ?_
    refine wpAnyH_ready (rs := [4, 5]) (by kernel_rfl) (by simp) ?_
    refine AllReadyH.cons rfl (fun K hK => ?_) ?_
    · go_simp
      refine hK.out _ _ trivial (fun _ => ?_)
      clear hK K
      refine wpAnyH_ready (rs := [5]) (by kernel_rfl) (by simp) ?_
      refine AllReadyH.cons rfl (fun K hK => ?_) AllReadyH.nil
      go_simp
      refine hK.out _ _ trivial (fun _ => ?_)
      clear hK K
      refine wpAnyH_ready (rs := [6]) (by kernel_rfl) (by simp) ?_
      refine AllReadyH.cons rfl (fun K hK => ?_) AllReadyH.nil
      go_simp
      refine hK.out _ _ trivial (fun _ => ?_)
      clear hK K
      refine wpAnyH_ready (rs := [7]) (by kernel_rfl) (by simp) ?_
      refine AllReadyH.cons rfl (fun K hK => ?_) AllReadyH.nil
      refine step_tr_append rfl (.tmp 23) (.tmp 25) rfl w2.drew B l.length (.slice ao l.length cap) (l.flatMap trs) x rfl rfl HO.out (by omega) hsz.out ?_
      intro g3 cap3 w3 ho hg hloc
      obtain ⟨d1, d2, HN⟩ := HK.out _ _ ho hg (hloc.elim (fun e => .inl e.symm) (fun e => .inr (by rw [e]; rfl)))
      clear ho hg hloc
      refine hK.out _ _ trivial (fun _ => ?_)
      clear hK K
      refine wpAnyH_take (i := 8) (v := .pointer (some ⟨p, 0, none⟩)) rfl (by kernel_rfl) (by kernel_rfl) (by kernel_rfl) (fun _ _ _ h => h) (Or.inl ⟨by rfl, by (intro w _; go_simp)⟩) trivial ?_
      refine wpAnyH_take (i := 9) (v := .pointer (some ⟨p, 0, none⟩)) rfl (by kernel_rfl) (by kernel_rfl) (by kernel_rfl) (fun _ _ _ h => h) (Or.inl ⟨by rfl, by (intro w _; go_simp)⟩) trivial ?_
      refine wpAnyH_ready (rs := [10]) (by kernel_rfl) (by simp) ?_
      refine AllReadyH.cons rfl (fun K hK => ?_) AllReadyH.nil
      go_simp
      refine hK.out _ _ trivial (fun _ => ?_)
      clear hK K
      refine wpAnyH_done (by kernel_rfl) ?_ _
      go_wp2_with fail
      go_ret
      exact HN.out
    · refine AllReadyH.cons rfl (fun K hK => ?_) AllReadyH.nil
      go_simp
      refine hK.out _ _ trivial (fun _ => ?_)
      clear hK K
      refine wpAnyH_ready (rs := [4, 6]) (by kernel_rfl) (by simp) ?_
      refine AllReadyH.cons rfl (fun K hK => ?_) ?_
      · go_simp
        refine hK.out _ _ trivial (fun _ => ?_)
        clear hK K
        refine wpAnyH_ready (rs := [6]) (by kernel_rfl) (by simp) ?_
        refine AllReadyH.cons rfl (fun K hK => ?_) AllReadyH.nil
        go_simp
        refine hK.out _ _ trivial (fun _ => ?_)
        clear hK K
        refine wpAnyH_ready (rs := [7]) (by kernel_rfl) (by simp) ?_
        refine AllReadyH.cons rfl (fun K hK => ?_) AllReadyH.nil
        refine step_tr_append rfl (.tmp 23) (.tmp 25) rfl w2.drew B l.length (.slice ao l.length cap) (l.flatMap trs) x rfl rfl HO.out (by omega) hsz.out ?_
        intro g3 cap3 w3 ho hg hloc
        obtain ⟨d1, d2, HN⟩ := HK.out _ _ ho hg (hloc.elim (fun e => .inl e.symm) (fun e => .inr (by rw [e]; rfl)))
        clear ho hg hloc
        refine hK.out _ _ trivial (fun _ => ?_)
        clear hK K
        refine wpAnyH_take (i := 8) (v := .pointer (some ⟨p, 0, none⟩)) rfl (by kernel_rfl) (by kernel_rfl) (by kernel_rfl) (fun _ _ _ h => h) (Or.inl ⟨by rfl, by (intro w _; go_simp)⟩) trivial ?_
        refine wpAnyH_take (i := 9) (v := .pointer (some ⟨p, 0, none⟩)) rfl (by kernel_rfl) (by kernel_rfl) (by kernel_rfl) (fun _ _ _ h => h) (Or.inl ⟨by rfl, by (intro w _; go_simp)⟩) trivial ?_
        refine wpAnyH_ready (rs := [10]) (by kernel_rfl) (by simp) ?_
        refine AllReadyH.cons rfl (fun K hK => ?_) AllReadyH.nil
        go_simp
        refine hK.out _ _ trivial (fun _ => ?_)
        clear hK K
        refine wpAnyH_done (by kernel_rfl) ?_ _
        go_wp2_with fail
        go_ret
        exact HN.out
      · refine AllReadyH.cons rfl (fun K hK => ?_) AllReadyH.nil
        go_simp
        refine hK.out _ _ trivial (fun _ => ?_)
        clear hK K
        refine wpAnyH_ready (rs := [4]) (by kernel_rfl) (by simp) ?_
        refine AllReadyH.cons rfl (fun K hK => ?_) AllReadyH.nil
        go_simp
        refine hK.out _ _ trivial (fun _ => ?_)
        clear hK K
        refine wpAnyH_ready (rs := [7]) (by kernel_rfl) (by simp) ?_
        refine AllReadyH.cons rfl (fun K hK => ?_) AllReadyH.nil
        refine step_tr_append rfl (.tmp 23) (.tmp 25) rfl w2.drew B l.length (.slice ao l.length cap) (l.flatMap trs) x rfl rfl HO.out (by omega) hsz.out ?_
        intro g3 cap3 w3 ho hg hloc
        obtain ⟨d1, d2, HN⟩ := HK.out _ _ ho hg (hloc.elim (fun e => .inl e.symm) (fun e => .inr (by rw [e]; rfl)))
        clear ho hg hloc
        refine hK.out _ _ trivial (fun _ => ?_)
        clear hK K
        refine wpAnyH_take (i := 8) (v := .pointer (some ⟨p, 0, none⟩)) rfl (by kernel_rfl) (by kernel_rfl) (by kernel_rfl) (fun _ _ _ h => h) (Or.inl ⟨by rfl, by (intro w _; go_simp)⟩) trivial ?_
        refine wpAnyH_take (i := 9) (v := .pointer (some ⟨p, 0, none⟩)) rfl (by kernel_rfl) (by kernel_rfl) (by kernel_rfl) (fun _ _ _ h => h) (Or.inl ⟨by rfl, by (intro w _; go_simp)⟩) trivial ?_
        refine wpAnyH_ready (rs := [10]) (by kernel_rfl) (by simp) ?_
        refine AllReadyH.cons rfl (fun K hK => ?_) AllReadyH.nil
        go_simp
        refine hK.out _ _ trivial (fun _ => ?_)
        clear hK K
        refine wpAnyH_done (by kernel_rfl) ?_ _
        go_wp2_with fail
        go_ret
        exact HN.out
end Go.Proofs.Ytbamhbfncddieaa.Uc
