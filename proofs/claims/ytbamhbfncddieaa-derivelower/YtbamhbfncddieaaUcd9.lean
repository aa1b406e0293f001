import Derived.Test.YtbamhbfncddieaaUcd8
namespace Go.Proofs.Ytbamhbfncddieaa.Uc
open Go.RowKit

theorem wpList_row7 {ops : Array Oper} {rest : List Oper} {o : Oper} {a : Act} {Q : Exit → Act → World → Prop} (hgd : o.guard = none) (s x : Operand)
    (ho : o.op = .call { callee := .builtin .append, args := #[s, x], argTypes := #[50, 50] }) (W : World) (B n : Nat) (v : Value) (xs : List Value) (r : SRow Tr) (hs : a.eval s = v) (N : Nat) (hN : W.heap.size = N) (hx : a.eval x = .slice (some ⟨N, 0, none⟩) 1 1)
    (hown : W.ownsRow B 94 7 v n xs) (hn : n ≤ 5000) (hB : B ≤ W.heap.size)
    (h : ∀ v' w', w'.ownsRow B 94 7 v' (n + 1) (xs ++ tr7 r) → Below B W w' → (∀ lb, lb < W.heap.size → v.ownBlock ≠ some lb → w'.heap[lb]? = W.heap[lb]?) → (v'.ownBlock = v.ownBlock ∨ v'.ownBlock = some (W.heap.size + 1)) → wpList Try.prog ops Q rest (a.put o.dst v') w') :
    wpList Try.prog ops Q (o :: rest) a (W.alloc (.cells (tr7 r).toArray 94)) := by
  subst hN
  obtain ⟨i0, hi, hz0, hz1, hz2⟩ := info_parts Try.info_row7
  refine wpList_append_own_at _ hgd s x 50 ho B 94 i0 (.agg #[.int .i32 0, .int .i32 0, .int .i64 0, .int .i64 0, .int .i64 0, .int .i64 0, .int .i64 0]) 7 48 Try.underlying50 hi hz0 hz1 hz2 rfl (by decide) v n xs hs (hown.alloc _) ⟨W.heap.size, 0, none⟩ 1 1 (tr7 r) hx rfl
    (World.news_of_block (heap_alloc_new W _)) (fun u hu => by simp [tr7] at hu; rcases hu with rfl | rfl | rfl | rfl | rfl | rfl | rfl <;> rfl) (by unfold maxLen; omega) (by omega) (by simp; omega) (fun v' w' h1 h2 _ h4 => h v' w' h1 ?_ ?_ (h4.imp id (fun e => by simpa using e)))
  · exact ((Below.refl _ _).alloc hB _).trans (below_of_grown h2 B (by simp; omega) (fun k e => (hown.lt k e).1))
  · intro lb hlb hne
    rw [h2.block lb (by simp; omega) (fun e => hne e.symm)]
    exact Below.heap_alloc _ _ _ hlb

/-- What fill has behind k rows. -/
structure FilW (w : World) (l : List (SRow Tr)) (k : Nat) (next : Int) (out : List (SRow Tr)) (ov : Value) (wr : World) : Prop where
  own : wr.ownsRow w.heap.size 94 7 ov out.length (out.flatMap tr7)
  bel : Below w.heap.size w wr
  most : out.length ≤ 2 * k
  eq : fillP 0 l = out ++ fillP next (l.drop k)
  lo : 0 ≤ next ∧ next ≤ 1114112

theorem FilW.gap {w : World} {l : List (SRow Tr)} {k : Nat} {next : Int} {out : List (SRow Tr)} {ov : Value} {wr : World} (h : FilW w l k next out ov wr) (hk : k < l.length) (hlt : next < l[k].f) : fillP 0 l = out ++ [⟨next, l[k].f - 1, zTr⟩] ++ [l[k]] ++ fillP (l[k].t + 1) (l.drop (k + 1)) := by
  rw [h.eq, List.drop_eq_getElem_cons hk, fillP, if_pos hlt]; simp
theorem FilW.nogap {w : World} {l : List (SRow Tr)} {k : Nat} {next : Int} {out : List (SRow Tr)} {ov : Value} {wr : World} (h : FilW w l k next out ov wr) (hk : k < l.length) (hlt : ¬ next < l[k].f) : fillP 0 l = out ++ [l[k]] ++ fillP (l[k].t + 1) (l.drop (k + 1)) := by
  rw [h.eq, List.drop_eq_getElem_cons hk, fillP, if_neg hlt]; simp

set_option maxHeartbeats 2000000 in
set_option maxRecDepth 100000 in
theorem fill_any {w : World} {v : Value} {l : List (SRow Tr)} (h : VIn w v l) (hl : l.length ≤ 2000) (hs : ∀ x ∈ l, 0 ≤ x.f ∧ x.f ≤ 1114111 ∧ 0 ≤ x.t ∧ x.t ≤ 1114111) :
    Calls Try.prog 28 #[v] w fun e w' => ∃ ov, e = .returned ov ∧ w'.ownsRow w.heap.size 94 7 ov (fillP 0 l).length ((fillP 0 l).flatMap tr7) ∧ Below w.heap.size w w' := by
  obtain ⟨ao, cap, rfl, _, hc⟩ := h
  have HC := hid hc
  have HS := hid hs
  clear hc hs
  go_enter Try.func28, Try.ntmps28
  go_wp2_with fail
  go_loopg [9, 4, 3] l.length (fun g i nv ov wr => ∃ (k : Nat) (next : Int) (out : List (SRow Tr)), k ≤ l.length ∧ g = l.length - k ∧ i = .int .i64 k ∧ nv = .int .i32 next ∧ Hid (FilW w l k next out ov wr))
  case atStart => exact ⟨0, 0, [], Nat.zero_le _, by omega, rfl, rfl, ⟨World.ownsRow_nil _ _ _ _, Below.refl _ _, by simp, rfl, by omega⟩⟩
  case round =>
    obtain ⟨k, next, out, hk, hg, rfl, rfl, H⟩ := hrel
    have HG := hid hg
    clear hg
    obtain ⟨ao2, cap2, rfl⟩ := own_slice H.out.own
    have ⟨hn0, hn1⟩ := H.out.lo
    by_cases hlt : k < l.length
    · obtain ⟨gb, off, rfl, hgb, e0, e1, e2⟩ := HC.out k hlt
      have hb := H.out.bel
      have d0 := (hb.cell (p := ⟨gb, off + k * 7, none⟩) hgb).trans e0
      have d1 := (hb.cell (p := ⟨gb, off + k * 7 + 1, none⟩) hgb).trans e1
      obtain ⟨d2, g3, g4, g5, g6⟩ := e2.of_block (hb.block gb hgb)
      have d3 : wr.cell? ⟨gb, off + k * 7 + 3, none⟩ = some _ := g3
      have d4 : wr.cell? ⟨gb, off + k * 7 + 4, none⟩ = some _ := g4
      have d5 : wr.cell? ⟨gb, off + k * 7 + 5, none⟩ = some _ := g5
      have d6 : wr.cell? ⟨gb, off + k * 7 + 6, none⟩ = some _ := g6
      clear g3 g4 g5 g6
      clear e0 e1 e2
      have ⟨hf0, hf1, ht0, ht1⟩ := HS.out l[k] (List.getElem_mem hlt)
      have hout : out.length ≤ 2 * k := H.out.most
      have HGap := hid (H.out.gap hlt)
      have HNo := hid (H.out.nogap hlt)
      have HOA := hid (fun o => H.out.own.alloc o)
      have HOL := hid (fun g hg => (H.out.own.lt g hg).2)
      have HB := hid (fun o => hb.alloc (by have := hb.size; omega) o)
      have hsz : Hid (w.heap.size ≤ wr.heap.size) := hb.size
      clear HC hb H
      generalize l[k] = x at *
      obtain ⟨xf, xt, xv⟩ := x
      obtain ⟨va, vb, vc, vd, ve⟩ := xv
      simp only at d0 d1 d2 d3 d4 d5 d6 hf0 hf1 ht0 ht1
      have HL0 := hid (heap_alloc_new wr (.cells (tr7 ⟨xf, xt, ⟨va, vb, vc, vd, ve⟩⟩).toArray 94))
      by_cases hgap : next < xf
      · go_wp2_with (first
          | (at_builtin; refine wpList_row7 rfl (.tmp 17) (.tmp 23) rfl (wr.alloc (.cells (tr7 ⟨xf, xt, ⟨va, vb, vc, vd, ve⟩⟩).toArray 94)) w.heap.size out.length (.slice ao2 out.length cap2) (out.flatMap tr7) ⟨next, xf - 1, zTr⟩ rfl (wr.heap.size + 1) (by simp) rfl (HOA.out _) (by omega) (by simp; have := hsz.out; omega) ?_; intro v1 w1 ho1 hb1 hk1 hv1; obtain ⟨ao3, cap3, rfl⟩ := own_slice ho1; obtain ⟨s0, s1, s2, s3, s4, s5, s6⟩ := local7 (wr := wr) ⟨xf, xt, ⟨va, vb, vc, vd, ve⟩⟩ ((hk1 wr.heap.size (by simp) (fun e => by have := HOL.out _ e; omega)).trans HL0.out); simp only [Nat.reduceAdd] at s3 s4 s5 s6; have HL1 := hid ((hk1 wr.heap.size (by simp) (fun e => by have := HOL.out _ e; omega)).trans HL0.out); have HSZ1 : Hid (wr.heap.size + 1 ≤ w1.heap.size) := (by have e1 := hb1.size; rw [World.size_alloc] at e1; exact e1); have HNE1 : Hid ((Value.slice ao3 (out.length + 1) cap3).ownBlock ≠ some wr.heap.size) := (fun e => hv1.elim (fun e2 => by have := HOL.out _ (e2.symm.trans e); omega) (fun e2 => by have e3 := Option.some.inj (e2.symm.trans e); rw [World.size_alloc] at e3; omega)); have HO1 := hid ho1; have HB1 := hid ((HB.out _).trans hb1); clear ho1 hb1 hk1 hv1)
          | (at_builtin; refine wpList_row7 rfl (.tmp 25) (.tmp 27) rfl w1 w.heap.size (out.length + 1) (.slice ao3 (out.length + 1) cap3) (out.flatMap tr7 ++ tr7 ⟨next, xf - 1, zTr⟩) ⟨xf, xt, ⟨va, vb, vc, vd, ve⟩⟩ rfl w1.heap.size rfl rfl HO1.out (by omega) (HB1.out.size) ?_; intro v2 w2 ho2 hb2 hk2 _; obtain ⟨ao4, cap4, rfl⟩ := own_slice ho2; obtain ⟨q0, q1, q2, q3, q4, q5, q6⟩ := local7 (wr := wr) ⟨xf, xt, ⟨va, vb, vc, vd, ve⟩⟩ ((hk2 wr.heap.size (by have := HSZ1.out; omega) HNE1.out).trans HL1.out); simp only [Nat.reduceAdd] at q3 q4 q5 q6; have HO2 := hid ho2; have HB2 := hid (HB1.out.trans hb2); clear ho2 hb2 hk2 s0 s1 s2 s3 s4 s5 s6))
        go_roundg (l.length - (k + 1))
        case measure => rw [HG.out]; omega
        case rel => exact ⟨k + 1, xt + 1, out ++ [⟨next, xf - 1, zTr⟩] ++ [⟨xf, xt, ⟨va, vb, vc, vd, ve⟩⟩], by omega, rfl, by go_num, rfl, ⟨by simpa [List.flatMap_append] using HO2.out, HB2.out, by simp; omega, HGap.out hgap, by omega⟩⟩
      · go_wp2_with (first
          | (at_builtin; refine wpList_row7 rfl (.tmp 25) (.tmp 27) rfl (wr.alloc (.cells (tr7 ⟨xf, xt, ⟨va, vb, vc, vd, ve⟩⟩).toArray 94)) w.heap.size out.length (.slice ao2 out.length cap2) (out.flatMap tr7) ⟨xf, xt, ⟨va, vb, vc, vd, ve⟩⟩ rfl (wr.heap.size + 1) (by simp) rfl (HOA.out _) (by omega) (by simp; have := hsz.out; omega) ?_; intro v2 w2 ho2 hb2 hk2 _; obtain ⟨ao4, cap4, rfl⟩ := own_slice ho2; obtain ⟨q0, q1, q2, q3, q4, q5, q6⟩ := local7 (wr := wr) ⟨xf, xt, ⟨va, vb, vc, vd, ve⟩⟩ ((hk2 wr.heap.size (by simp) (fun e => by have := HOL.out _ e; omega)).trans HL0.out); simp only [Nat.reduceAdd] at q3 q4 q5 q6; have HO2 := hid ho2; have HB2 := hid ((HB.out _).trans hb2); clear ho2 hb2 hk2))
        go_roundg (l.length - (k + 1))
        case measure => rw [HG.out]; omega
        case rel => exact ⟨k + 1, xt + 1, out ++ [⟨xf, xt, ⟨va, vb, vc, vd, ve⟩⟩], by omega, rfl, by go_num, rfl, ⟨by simpa [List.flatMap_append] using HO2.out, HB2.out, by simp; omega, HNo.out hgap, by omega⟩⟩
    · have e : k = l.length := by omega
      subst e
      have hb := H.out.bel
      have HEq : Hid (fillP 0 l = out ++ fillP next []) := by have := H.out.eq; rw [List.drop_length] at this; exact this
      have hout : out.length ≤ 2 * l.length := H.out.most
      by_cases hend : next ≤ 1114111
      · have HE2 : Hid (fillP 0 l = out ++ [⟨next, 1114111, zTr⟩]) := by show _ = _; rw [HEq.out, fillP, if_pos hend]
        go_wp2_with (first
          | (at_builtin; refine wpList_row7 rfl (.tmp 35) (.tmp 38) rfl wr w.heap.size out.length (.slice ao2 out.length cap2) (out.flatMap tr7) ⟨next, 1114111, zTr⟩ rfl wr.heap.size rfl rfl H.out.own (by omega) hb.size ?_; intro v2 w2 ho2 hb2 hk2 _; obtain ⟨ao4, cap4, rfl⟩ := own_slice ho2; have HO2 := hid ho2; have HB2 := hid (hb.trans hb2); clear ho2 hb2 hk2))
        go_ret
        exact ⟨_, rfl, by rw [HE2.out]; simpa [List.flatMap_append] using HO2.out, HB2.out⟩
      · have HE2 : Hid (fillP 0 l = out) := by show _ = _; rw [HEq.out, fillP, if_neg hend, List.append_nil]
        go_wp2_with fail
        go_ret
        exact ⟨_, rfl, by rw [HE2.out]; exact H.out.own, hb⟩
end Go.Proofs.Ytbamhbfncddieaa.Uc
