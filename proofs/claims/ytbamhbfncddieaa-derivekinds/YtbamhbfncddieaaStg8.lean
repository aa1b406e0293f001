import Derived.Test.YtbamhbfncddieaaStg7
import Derived.Deep.AppendLies
namespace Go.Proofs.Ytbamhbfncddieaa.Uc
open Go.RowKit

theorem NumW.start {w W0 w1 : World} {p : Nat} {f : Nat → Value} {other : Tr} {l : List (SRow Tr)} {e : Ending} (hp : p < w.heap.size) (hf0 : f 0 = .slice none 0 0) (hb0 : Below w.heap.size w W0) (hk : Kept W0 w.heap.size p f [] other e w1) :
    ∃ (n : Nat) (vv : Value), e = .returned (.int .u16 n) ∧ NumW w p f other l 0 1 [other] [] vv (.slice none 0 0) w1 := by
  obtain ⟨n, v', l', rfl, hn, hl', hv', hc, hb⟩ := hk
  have hl2 : l' = [other] := by
    rcases hl' with ⟨_, h⟩ | ⟨h, _⟩
    · simp at h
    · simpa using h
  subst hl2
  have hnone : (f 0).ownBlock = none := by rw [hf0]; rfl
  refine ⟨n, v', rfl, hv', World.ownsRow_nil _ _ _ _, .inr ?_, ⟨by simp, fun j x y hx => by simp at hx, by simp, rfl⟩, (Chg.of_below hb0).trans (hc.mono (fun k _ e => ?_)), hp, by simp⟩
  · rcases hb with e | ⟨g, e, _⟩
    · have := hv'.own.2
      simp only [if_true] at this
      rcases this with ⟨_, h⟩ | ⟨g, cap, cur, h, _⟩
      · simp at h
      · rw [h]; simp [Value.ownBlock]
    · rw [e]; simp [Value.ownBlock]
  · rcases e with e | e
    · exact e
    · rw [hnone] at e; simp at e

theorem local7 {wr : World} (x : SRow Tr) {t : TypeId} {W : World} (h : W.heap[wr.heap.size]? = some (.cells #[.int .i32 x.f, .int .i32 x.t, .int .i64 x.v.a, .int .i64 x.v.b, .int .i64 x.v.c, .int .i64 x.v.d, .int .i64 x.v.e] t)) : W.cell? ⟨wr.heap.size, 0, none⟩ = some (.int .i32 x.f) ∧ W.cell? ⟨wr.heap.size, 1, none⟩ = some (.int .i32 x.t) ∧ At5 W wr.heap.size 2 x.v := by
  unfold At5
  rw [cell_of_row _ _ _ _ _ _ h, cell_of_row _ _ _ _ _ _ h, cell_of_row _ _ _ _ _ _ h, cell_of_row _ _ _ _ _ _ h, cell_of_row _ _ _ _ _ _ h, cell_of_row _ _ _ _ _ _ h, cell_of_row _ _ _ _ _ _ h]
  exact ⟨rfl, rfl, rfl, rfl, rfl, rfl, rfl⟩

theorem step_row_append {ops : Array Oper} {o : Oper} {a : Act} {K : Act → World → Prop} {Q : Exit → Act → World → Prop} {E : Prop} (hgd : o.guard = none) (s x : Operand)
    (ho : o.op = .call { callee := .builtin .append, args := #[s, x], argTypes := #[107, 107] }) (W : World) (B n : Nat) (v : Value) (xs : List Value) (r : SRow Nat) (hs : a.eval s = v) (hx : a.eval x = .slice (some ⟨W.heap.size, 0, none⟩) 1 1)
    (hown : W.ownsRow B 124 3 v n xs) (hn : n ≤ 5000) (hB : B ≤ W.heap.size)
    (h : ∀ g cap w', w'.ownsRow B 124 3 (.slice (some ⟨g, 0, none⟩) (n + 1) cap) (n + 1) (xs ++ rowCells r) → (W.alloc (.cells #[.int .i32 r.f, .int .i32 r.t, .int .u16 (r.v : Int)] 124)).grownBy w' v.ownBlock → (v.ownBlock = some g ∨ g = W.heap.size + 1) → K (a.put o.dst (.slice (some ⟨g, 0, none⟩) (n + 1) cap)) w') :
    if Region.wanted o (yielded ops a.tmps) = true then Oper.wp Try.prog o a (W.alloc (.cells #[.int .i32 r.f, .int .i32 r.t, .int .u16 (r.v : Int)] 124)) K Q else E := by
  obtain ⟨i0, hi, hz0, hz1, hz2⟩ := info_parts Try.info_row
  refine step_append_lies (P := Try.prog) _ hgd s x 107 ho B 124 i0 (.agg #[.int .i32 0, .int .i32 0, .int .u16 0]) 3 12 Try.underlying107 hi hz0 hz1 hz2 rfl (by decide) v n xs hs (hown.alloc _) ⟨W.heap.size, 0, none⟩ 1 1 (rowCells r) hx rfl
    (World.news_of_block (heap_alloc_new W _)) (fun u hu => by simp [rowCells] at hu; rcases hu with rfl | rfl | rfl <;> rfl) (by omega) (by unfold maxLen; omega) (by omega) (by simp; omega) (W.heap.size + 1) (by simp) (fun g cap w' h1 h2 h3 _ => h g cap w' h1 h2 h3)

/-- The local copy's cells. -/
def Loc (lb : Nat) (x : SRow Tr) (w : World) : Prop := w.cell? ⟨lb, 0, none⟩ = some (.int .i32 x.f) ∧ w.cell? ⟨lb, 1, none⟩ = some (.int .i32 x.t) ∧ At5 w lb 2 x.v
theorem Loc.of_block {lb : Nat} {x : SRow Tr} {w w' : World} (h : Loc lb x w) (e : w'.heap[lb]? = w.heap[lb]?) : Loc lb x w' := by
  unfold Loc
  rw [World.cell?_of_block (a := ⟨lb, 0, none⟩) e, World.cell?_of_block (a := ⟨lb, 1, none⟩) e]; exact ⟨h.1, h.2.1, h.2.2.of_block e⟩
theorem Loc.alloc {lb : Nat} {x : SRow Tr} {w : World} (h : Loc lb x w) (o : Obj) : Loc lb x (w.alloc o) :=
  h.of_block (Below.heap_alloc _ _ _ (World.block_lt_of_cell? w _ h.1))

set_option maxHeartbeats 4000000 in
set_option maxRecDepth 100000 in
theorem number_any {w : World} {p : Nat} {f : Nat → Value} (hrow : w.rowIs p 105 4354 f) (hf0 : f 0 = .slice none 0 0) {v : Value} {l : List (SRow Tr)} (h : VIn w v l) (hv : v.ownBlock ≠ some p) (hl : l.length ≤ 4096) (other : Tr) :
    Calls Try.prog 60 #[.pointer (some ⟨p, 0, none⟩), v, trv other] w fun e w' => ∃ vals nr vv ov, e = .returned ov ∧ NumW w p f other l l.length (l.length + 1) vals nr vv ov w' := by
  have hb0 : Below w.heap.size w (w.alloc (boxT other)) := (Below.refl _ _).alloc (Nat.le_refl _) _
  have HK := hid (keep_any (B := w.heap.size) (l := []) ⟨hrow.alloc (boxT other), by rw [hf0]; exact World.ownsRow_nil _ _ _ _, by rw [hf0]; simp [Value.ownBlock]⟩ (by simp) hb0.size other)
  have HP := hid (And.intro hrow.lt hf0)
  have HB0 := hid hb0
  have HN5 : Hid (At5 (w.alloc (boxT other)) w.heap.size 0 other) := At5.new w other _
  obtain ⟨ao, cap, rfl, _, hc⟩ := h
  have HC := hid hc
  clear hc hrow hf0 hb0
  have hv' := hid hv
  clear hv
  unfold trv at HK ⊢
  go_enter Try.func60, Try.ntmps60
  go_wp2_with fail
  refine HK.out.mono ?_
  intro e w1 hk1
  obtain ⟨n, vv, rfl, hN⟩ := NumW.start (l := l) HP.out.1 HP.out.2 HB0.out hk1
  clear hk1 HK
  have HS := hid hN
  clear hN
  go_wp2_with fail
  go_loopg [15, 7] l.length (fun g i ov wr => ∃ k vals nr vv, k ≤ l.length ∧ g = l.length - k ∧ i = .int .i64 (k : Nat) ∧ NumW w p f other l k (k + 1) vals nr vv ov wr)
  case atStart => exact ⟨0, [other], [], vv, by omega, by omega, rfl, HS.out⟩
  case round =>
    clear HS
    obtain ⟨k, vals, nr, vv, hk, hg, rfl, hN⟩ := hrel
    have HG := hid hg
    clear hg
    by_cases hlt : k < l.length
    · obtain ⟨gb, off, rfl, hgb, e0, e1, e2⟩ := HC.out k hlt
      have hgp : gb ≠ p := fun e => hv'.out (by rw [e]; rfl)
      have hblk := hN.chg.block gb hgb hgp
      have d0 := (World.cell?_of_block (a := ⟨gb, off + k * 7, none⟩) hblk).trans e0
      have d1 := (World.cell?_of_block (a := ⟨gb, off + k * 7 + 1, none⟩) hblk).trans e1
      obtain ⟨d2, g3, g4, g5, g6⟩ := e2.of_block hblk
      have d3 : wr.cell? ⟨gb, off + k * 7 + 3, none⟩ = some _ := g3
      have d4 : wr.cell? ⟨gb, off + k * 7 + 4, none⟩ = some _ := g4
      have d5 : wr.cell? ⟨gb, off + k * 7 + 5, none⟩ = some _ := g5
      have d6 : wr.cell? ⟨gb, off + k * 7 + 6, none⟩ = some _ := g6
      clear g3 g4 g5 g6
      clear e0 e1 e2 hblk
      have hkx : Hid (l[k]? = some l[k]) := List.getElem?_eq_getElem hlt
      generalize l[k] = x at *
      have hNa := hid (hN.step (w' := wr.alloc (.cells #[.int .i32 x.f, .int .i32 x.t, .int .i64 x.v.a, .int .i64 x.v.b, .int .i64 x.v.c, .int .i64 x.v.d, .int .i64 x.v.e] 94)) ((Below.refl _ _).alloc (Nat.le_refl _) _))
      obtain ⟨ao2, cap2, rfl⟩ := own_slice hN.own
      have hov0 := fun g hg => (hN.own.lt g hg).2
      have hlb := hid (And.intro hN.tab.row.lt (fun g hg => (hN.tab.own.lt g hg).2))
      clear hN
      have hL : Loc wr.heap.size x (wr.alloc (.cells #[.int .i32 x.f, .int .i32 x.t, .int .i64 x.v.a, .int .i64 x.v.b, .int .i64 x.v.c, .int .i64 x.v.d, .int .i64 x.v.e] 94)) := by
        exact local7 x (heap_alloc_new wr _)
      have hov : Hid (∀ g, (Value.slice ao2 nr.length cap2).ownBlock = some g → g < wr.heap.size) := fun g hg => hov0 g hg
      go_wp2_with fail
      have hlb2 := hlb.out
      generalize wr.alloc (.cells #[.int .i32 x.f, .int .i32 x.t, .int .i64 x.v.a, .int .i64 x.v.b, .int .i64 x.v.c, .int .i64 x.v.d, .int .i64 x.v.e] 94) = W2 at *
      generalize wr.heap.size = lb at *
      have hNd := hid (hNa.out.step (w' := W2.drew) (Below.refl _ _).drew)
      have hsz : w.heap.size ≤ W2.heap.size := hNa.out.chg.size
      have HKE := hid (keep_any hNd.out.tab (by have := hNd.out.most; omega) hsz x.v)
      have HLt : Hid (lb < W2.heap.size) := World.block_lt_of_cell? W2 _ hL.1
      have HLP : Hid (lb ≠ p ∧ vv.ownBlock ≠ some lb) := ⟨by have := hlb.out.1; omega, fun e => by have := hlb.out.2 lb e; omega⟩
      have HL2 : Hid (∀ w2 : World, w2.heap[lb]? = W2.heap[lb]? → Loc lb x w2) := fun w2 e => hL.of_block e
      have hnl : nr.length ≤ 4096 := by have := hNa.out.numd.len; rw [this, List.length_take]; omega
      have HX := hid hkx.out
      clear hNa d0 d1 d2 d3 d4 d5 d6 hkx hsz HC
      obtain ⟨s0, s1, s2, s3, s4, s5, s6⟩ := hL
      simp only [Nat.reduceAdd] at s3 s4 s5 s6
      unfold trv at HKE
      go_region_held3 (fun w' => w'.cell? ⟨lb, 0, none⟩ = some (.int .i32 x.f) ∧ w'.cell? ⟨lb, 1, none⟩ = some (.int .i32 x.t) ∧ w'.cell? ⟨lb, 2, none⟩ = some (.int .i64 x.v.a) ∧ w'.cell? ⟨lb, 3, none⟩ = some (.int .i64 x.v.b) ∧ w'.cell? ⟨lb, 4, none⟩ = some (.int .i64 x.v.c) ∧ w'.cell? ⟨lb, 5, none⟩ = some (.int .i64 x.v.d) ∧ w'.cell? ⟨lb, 6, none⟩ = some (.int .i64 x.v.e))
        (first | exact ⟨s0, s1, s2, s3, s4, s5, s6⟩ | exact HLa.out | exact HLb.out _ | exact HLc.out)
        (first
          | (go_at_call 77; refine HKE.out.mono ?_; intro e w2 hk2; obtain ⟨n1, vv', vals', rfl, hn1, hN1, hkp, hks⟩ := hNd.out.kept hk2; have HLa := hid (HL2.out w2 (hkp lb HLt.out HLP.out.1 HLP.out.2)); have HLb := hid (fun o => HLa.out.alloc o); have HN1 := hid hN1; have HN1n := hid hn1; have HSZ := hid (Nat.lt_of_lt_of_le HLt.out (show W2.heap.size ≤ w2.heap.size from hks)); clear hk2 hkp hN1 hn1 hks)
          | (refine step_row_append rfl (.tmp 19) (.tmp 29) rfl w2 w.heap.size nr.length (.slice ao2 nr.length cap2) (nr.flatMap rowCells) ⟨x.f, x.t, n1⟩ rfl rfl HN1.out.own (by omega) HN1.out.chg.size ?_; intro g2 cap3 w3 ho3 hg3 hl3; have HN3 := hid (HN1.out.next hlt HX.out HN1n.out ho3 hg3 (hl3.elim (fun e => .inl e.symm) (fun e => .inr (by rw [e]; rfl)))); have HLc := hid ((HLb.out _).of_block (hg3.block lb (by simp; have := HSZ.out; omega) (fun e => by have := hov.out lb e.symm; omega))); clear ho3 hg3 hl3))
      go_wp2_with fail
      go_roundg (l.length - (k + 1))
      case measure => rw [HG.out]; omega
      case rel => exact ⟨k + 1, vals', _, vv', by omega, rfl, by go_num, HN3.out⟩
    · have e : k = l.length := by omega
      subst e
      have HN := hid hN
      obtain ⟨ao2, cap2, rfl⟩ := own_slice hN.own
      clear hN HC
      go_wp2_with fail
      go_ret
      exact ⟨vals, nr, vv, _, rfl, HN.out⟩
end Go.Proofs.Ytbamhbfncddieaa.Uc
