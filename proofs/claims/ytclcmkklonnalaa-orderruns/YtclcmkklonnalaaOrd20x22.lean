import Derived.Test.YtclcmkklonnalaaOrd14x25
namespace Go.Proofs.Ytclcmkklonnalaa
namespace Od
open Go.RowKit

theorem Try.info_p2 : (Try.prog.info? 36).map (fun i => (i.zero, i.size, i.bytes)) = some (some (.agg #[.int .i64 0, .int .i64 0]), 2, 16) := by kernel_rfl
def p2 (x : Nat × Nat) : List Value := [.int .i64 (x.1 : Int), .int .i64 (x.2 : Int)]
theorem p2_len (l : List (Nat × Nat)) : (l.flatMap p2).length = l.length * 2 := by
  induction l with
  | nil => rfl
  | cons x l ih => simp only [List.flatMap_cons, List.length_append, ih, List.length_cons, p2, List.length_nil]; omega
theorem p2_at : ∀ (l : List (Nat × Nat)) (j i : Nat) (h : j < l.length), i < 2 → (l.flatMap p2)[j * 2 + i]? = (p2 l[j])[i]?
  | [], _, _, h, _ => by simp at h
  | x :: l, 0, i, _, hi => by
    simp only [List.flatMap_cons, Nat.zero_mul, Nat.zero_add, List.getElem_cons_zero]
    rw [List.getElem?_append_left (by simp [p2]; omega)]
  | x :: l, j + 1, i, h, hi => by
    have := p2_at l j i (by simpa using h) hi
    rw [List.flatMap_cons, List.getElem?_append_right (by simp [p2]; omega)]
    rw [show (j + 1) * 2 + i - (p2 x).length = j * 2 + i by simp [p2]; omega, this]
    rfl

/-- Pairs of places, as they are read. -/
structure PsP (w : World) (ao : Option Addr) (L : List (Nat × Nat)) : Prop where
  at_ : ∀ j (h : j < L.length), ∃ g, ao = some ⟨g, 0, none⟩ ∧ g < w.heap.size ∧ w.cell? ⟨g, j * 2, none⟩ = some (.int .i64 (L[j].1 : Int)) ∧ w.cell? ⟨g, j * 2 + 1, none⟩ = some (.int .i64 (L[j].2 : Int))
def Ps (w : World) (v : Value) (L : List (Nat × Nat)) : Prop := ∃ ao cap, v = .slice ao L.length cap ∧ PsP w ao L
theorem PsP.step {w w' : World} {ao : Option Addr} {L : List (Nat × Nat)} (h : PsP w ao L) (hb : Below w.heap.size w w') : PsP w' ao L := ⟨fun j hj => by
  obtain ⟨g, e, hg, h1, h2⟩ := h.at_ j hj
  exact ⟨g, e, Nat.lt_of_lt_of_le hg hb.size, (hb.cell (p := ⟨g, j * 2, none⟩) hg).trans h1, (hb.cell (p := ⟨g, j * 2 + 1, none⟩) hg).trans h2⟩⟩
theorem Ps.step {w w' : World} {v : Value} {L : List (Nat × Nat)} (h : Ps w v L) (hb : Below w.heap.size w w') : Ps w' v L := by
  obtain ⟨ao, cap, e, h⟩ := h
  exact ⟨ao, cap, e, h.step hb⟩
theorem own_ps {w : World} {B : Nat} {v : Value} {L : List (Nat × Nat)} (h : w.ownsRow B 36 2 v L.length (L.flatMap p2)) : Ps w v L := by
  rcases h.2 with ⟨h1, h2⟩ | ⟨g, cap, cur, rfl, h2, h3, h4, h5, h6, h7⟩
  · exact ⟨none, 0, by rw [h1, h2], ⟨fun j hj => by omega⟩⟩
  · refine ⟨_, cap, rfl, ⟨fun j hj => ⟨g, rfl, (Array.getElem?_eq_some_iff.1 h3).1, ?_, ?_⟩⟩⟩
    · have a1 := p2_at L j 0 hj (by omega)
      rw [h.cellAt (j * 2) (by omega), ← Nat.add_zero (j * 2), a1]; rfl
    · have a1 := p2_at L j 1 hj (by omega)
      rw [h.cellAt (j * 2 + 1) (by omega), a1]; rfl

/-- What Runs keeps: what has been told. -/
structure RuI (w : World) (b : Nat) (zs : List Int) (ao : Option Addr) (cap o5 pl pb N : Nat) (pre : List (Nat × Nat)) (W : World) : Prop where
  bel : Below w.heap.size w W
  bl : Bx W pl (.slice ao zs.length cap) 22
  bb : Bx W pb (.pointer (some ⟨b, 0, none⟩)) 23
  fit : pre.length ≤ endOf pre ∧ endOf pre ≤ zs.length
  big : N ≤ W.heap.size
  row : ∃ ao' cap', Bx W o5 (.slice ao' pre.length cap') 33 ∧ W.ownsRow N 36 2 (.slice ao' pre.length cap') pre.length (pre.flatMap p2)
theorem own_kc {N' N n size : Nat} {A B : World} {e : TypeId} {v : Value} {xs : List Value} (hk : Kc N' A B) (h : A.ownsRow N e size v n xs) : B.ownsRow N e size v n xs :=
  ⟨h.1, h.2.imp id fun ⟨g, cap, cur, h1, h2, h3, h4⟩ => ⟨g, cap, cur, h1, h2, hk.same g _ h3 (.inr rfl), h4⟩⟩
theorem RuI.keep {w : World} {b : Nat} {zs : List Int} {ao : Option Addr} {cap o5 pl pb N N' : Nat} {pre : List (Nat × Nat)} {A B : World} (h : RuI w b zs ao cap o5 pl pb N pre A) (hk : Kc N' A B) (hN : w.heap.size ≤ N') : RuI w b zs ao cap o5 pl pb N pre B := by
  obtain ⟨ao', cap', h1, h2⟩ := h.row
  exact ⟨hk.below h.bel hN (Nat.le_refl _), hk.bx h.bl, hk.bx h.bb, h.fit, Nat.le_trans h.big hk.size, ao', cap', hk.bx h1, own_kc hk h2⟩
theorem RuI.ne {w : World} {b : Nat} {zs : List Int} {ao : Option Addr} {cap o5 pl pb N : Nat} {pre : List (Nat × Nat)} {A : World} (hB : Bk w b) (hS : SlP .i32 w ao cap zs) (h : RuI w b zs ao cap o5 pl pb N pre A) : NeR b ao cap pl pb zs pre A :=
  ⟨hB.step h.bel, h.bl, h.bb, fun i hi _ => by
    obtain ⟨g, off, e, hg, hc⟩ := hS.at_ i hi
    exact ⟨g, off, e, (h.bel.cell (p := ⟨g, off + i, none⟩) hg).trans hc⟩⟩
/-- Behind the append, and the store of what it told. -/
theorem RuI.put {w : World} {b : Nat} {zs : List Int} {ao : Option Addr} {cap o5 pl pb N : Nat} {pre : List (Nat × Nat)} {A : World} (h : RuI w b zs ao cap o5 pl pb N pre A) {f t : Nat} (hx : NextR clsP zs pre (f, t)) (ho : w.heap.size ≤ o5 ∧ o5 < N ∧ pl < N ∧ pb < N ∧ w.heap.size ≤ N ∧ o5 ≠ pl ∧ o5 ≠ pb)
    {u v' : Value} {w' : World} (hu : A.ownsRow N 36 2 u pre.length (pre.flatMap p2)) (h1 : w'.ownsRow N 36 2 v' (pre.length + 1) (pre.flatMap p2 ++ p2 (f, t))) (h2 : (A.alloc (.cells (p2 (f, t)).toArray 36)).grownBy w' u.ownBlock) :
    ∃ ao' cap', v' = .slice ao' (pre.length + 1) cap' ∧ w'.cell? ⟨o5, 0, none⟩ = A.cell? ⟨o5, 0, none⟩ ∧ w'.frozen? ⟨o5, 0, none⟩ = false ∧ KeepsFrom N A (w'.setCell ⟨o5, 0, none⟩ v') ∧ RuI w b zs ao cap o5 pl pb N (pre ++ [(f, t)]) (w'.setCell ⟨o5, 0, none⟩ v') := by
  obtain ⟨ao', cap', rfl⟩ := own_slice h1
  obtain ⟨_, _, hbx, _⟩ := h.row
  have hbA : Below A.heap.size A (A.alloc (.cells (p2 (f, t)).toArray 36)) := (Below.refl _ _).alloc (Nat.le_refl _) _
  have hrow : ∀ k, u.ownBlock = some k → N ≤ k ∧ k < A.heap.size := fun k e => hu.lt k e
  have hblk : ∀ k, k < A.heap.size → u.ownBlock ≠ some k → w'.heap[k]? = A.heap[k]? := fun k hk hne => (h2.block k (Nat.lt_of_lt_of_le hk hbA.size) (fun e => hne e.symm)).trans (hbA.block k hk)
  have hlow : ∀ k, k < N → w'.heap[k]? = A.heap[k]? := fun k hk => hblk k (Nat.lt_of_lt_of_le hk h.big) (fun e => by have := (hrow k e).1; omega)
  have hs : A.heap.size ≤ w'.heap.size := Nat.le_trans hbA.size h2.size
  have hbx' : ∀ {o v t}, o < N → Bx A o v t → Bx w' o v t := fun ho hb => (hlow _ ho).trans hb
  have e1 : pre.flatMap p2 ++ p2 (f, t) = (pre ++ [(f, t)]).flatMap p2 := by simp
  have hoth : ∀ k, k ≠ o5 → (w'.setCell ⟨o5, 0, none⟩ (.slice ao' (pre.length + 1) cap')).heap[k]? = w'.heap[k]? := fun k hk => Below.heap_setCell _ _ _ _ hk
  have hx1 := hx.1
  have hx2 := hx.2.1
  have hx3 := hx.2.2.1
  simp only at hx1 hx2 hx3
  have hf := h.fit
  refine ⟨ao', cap', rfl, World.cell?_of_block (a := ⟨o5, 0, none⟩) (hlow o5 ho.2.1), (hbx' ho.2.1 hbx).frozen, ⟨by simpa [World.setCell] using hs, fun k o hk hko hoc => ?_⟩, ?_, ?_, ?_, ?_, ?_, ao', cap', ?_, ?_⟩
  · have hkl : k < A.heap.size := (Array.getElem?_eq_some_iff.1 hko).1
    rw [hoth k (by omega)]
    refine (hblk k hkl (fun e => ?_)).trans hko
    rcases hu.2 with ⟨hn, _⟩ | ⟨g, c0, cur, hv, _, hg, _⟩
    · rw [hn] at e; simp [Value.ownBlock] at e
    · rw [hv] at e; simp [Value.ownBlock] at e
      subst e
      rw [hg] at hko
      cases hko
      cases hoc
  · refine ⟨?_, ?_, ?_, ?_, fun k hk => ?_⟩
    · exact (h2.os.trans hbA.os).trans h.bel.os
    · exact (h2.tape.trans hbA.tape).trans h.bel.tape
    · exact (h2.output.trans hbA.output).trans h.bel.output
    · have := h.bel.size
      simpa [World.setCell] using Nat.le_trans this hs
    · rw [hoth k (by omega), hlow k (by omega), h.bel.block k hk]
  · exact (hoth pl (Ne.symm ho.2.2.2.2.2.1)).trans (hbx' ho.2.2.1 h.bl)
  · exact (hoth pb (Ne.symm ho.2.2.2.2.2.2)).trans (hbx' ho.2.2.2.1 h.bb)
  · rw [endOf_snoc, List.length_append]
    show pre.length + 1 ≤ t ∧ t ≤ zs.length
    omega
  · have := h.big
    simpa [World.setCell] using Nat.le_trans this hs
  · rw [List.length_append]
    exact (hbx' ho.2.1 hbx).set _
  · rw [List.length_append, ← e1]
    exact ⟨h1.1, h1.2.imp id fun ⟨g, cp, cur, a1, a2, a3, a4⟩ => ⟨g, cp, cur, a1, a2, (hoth g (by omega)).trans a3, a4⟩⟩
end Od
end Go.Proofs.Ytclcmkklonnalaa

namespace Go.Proofs.Ytclcmkklonnalaa
namespace Od
open Go.RowKit

attribute [local go_sem] Oper.semAt_some
set_option maxRecDepth 100000 in
set_option maxHeartbeats 4000000 in
theorem oruns_any {w : World} {b : Nat} {v : Value} {zs : List Int} (hB : Bk w b) (hS : Sl .i32 w v zs) (hn : zs.length ≤ 1000000) :
    Calls Try.prog 16 #[.pointer (some ⟨b, 0, none⟩), v] w fun e w' => ∃ v', e = .returned v' ∧ Ps w' v' (runsP clsP zs) ∧ Below w.heap.size w w' := by
  have HB := hid hB
  obtain ⟨ao, cap, rfl, hS⟩ := hS
  have HS := hid hS
  have HI2 : Hid (RuI w b zs ao cap w.heap.size (w.heap.size + 1 + 1) (w.heap.size + 1) (w.heap.size + 1 + 1 + 1) [] (((w.alloc (.cells #[.slice none 0 0] 33)).alloc (.cells #[.pointer (some ⟨b, 0, none⟩)] 23)).alloc (.cells #[.slice ao zs.length cap] 22))) := by
    refine ⟨((((Below.refl _ _).alloc (Nat.le_refl _) _).alloc (by simp) _).alloc (by simp; omega) _), ?_, ?_, ⟨Nat.le_refl _, Nat.zero_le _⟩, by simp, none, 0, ((Bx.new w _ _).alloc _).alloc _, World.ownsRow_nil _ _ _ _⟩
    · have := Bx.new ((w.alloc (.cells #[.slice none 0 0] 33)).alloc (.cells #[.pointer (some ⟨b, 0, none⟩)] 23)) (.slice ao zs.length cap) 22
      simpa using this
    · have := (Bx.new (w.alloc (.cells #[.slice none 0 0] 33)) (.pointer (some ⟨b, 0, none⟩)) 23).alloc (.cells #[.slice ao zs.length cap] 22)
      simpa using this
  clear hB hS
  obtain ⟨i0, hi, hz0, hz1, hz2⟩ := info_parts Try.info_p2
  have HIn := hid (And.intro hi (And.intro hz0 (And.intro hz1 hz2)))
  clear hi hz0 hz1 hz2
  refine (callsIn_wide (n := 6)).1 ?_
  refine callsIn_of_wp_marks Try.func16 rfl trivial ?_ rfl
  simp only [Try.ntmps16, List.size_toArray, List.length_cons, List.length_nil, Nat.reduceAdd, Nat.reduceSub, Array.replicate_succ, Array.replicate_zero, List.push_toArray, List.append_toArray, List.nil_append, List.cons_append]
  gi_wp2_with (first | (refine ⟨trivial, ?_⟩; gi_at_call 38; refine (callsIn_wide.2 (runs_any _ _ _ _ _)).mono ?_; rintro e w' ⟨rfl, rfl⟩))
  obtain ⟨W0, hW0⟩ : ∃ W0, W0 = (((w.alloc (.cells #[.slice none 0 0] 33)).alloc (.cells #[.pointer (some ⟨b, 0, none⟩)] 23)).alloc (.cells #[.slice ao zs.length cap] 22)) := ⟨_, rfl⟩
  rw [← hW0] at HI2 ⊢
  have hT := runs1_tells 5 b ao cap (w.heap.size + 1 + 1) (w.heap.size + 1) (by omega) zs hn W0
  have hz0 : w.heap.size ≤ W0.heap.size := HI2.out.bel.size
  have hz3 : W0.heap.size = w.heap.size + 1 + 1 + 1 := by rw [hW0]; simp
  have Hz3 := hid hz3
  clear hW0 hz3
  refine wpIn_told2 rfl (by omega) (gf := 65) (lb := #[.pointer (some ⟨w.heap.size + 1 + 1, 0, none⟩), .pointer (some ⟨w.heap.size + 1, 0, none⟩)]) rfl trivial (enters_of Try.func65 (by kernel_rfl) rfl) hT (fun _ => rfl)
    (RuI w b zs ao cap w.heap.size (w.heap.size + 1 + 1) (w.heap.size + 1) (w.heap.size + 1 + 1 + 1)) (fun _ _ => False) (fun pre A B h hk => h.keep hk hz0) (fun _ _ _ h _ => h) (fun pre A h => h.ne HB.out HS.out) HI2.out
    (fun x => { tmps := #[.pointer (some ⟨b, 0, none⟩), .slice ao zs.length cap, undef, undef, .slice none 0 0, .pointer (some ⟨w.heap.size, 0, none⟩), .int .i64 (x.1 : Int), .int .i64 (x.2 : Int), .pointer (some ⟨b, 0, none⟩), .slice ao zs.length cap, .func (.func 65) #[] #[.pointer (some ⟨w.heap.size + 1 + 1, 0, none⟩), .pointer (some ⟨w.heap.size + 1, 0, none⟩)], .int .i64 (x.1 : Int), .int .i64 (x.2 : Int), undef, undef, undef, undef, undef, undef, undef], defers := [] }) ?assign ?body ?done ?stop
  case assign =>
    intro l x W K hK
    have e : (#[11, 12].zip (toldR x)).foldl (fun (t : Array Value) (p : Nat × Value) => t.setIfInBounds p.1 p.2) #[.pointer (some ⟨b, 0, none⟩), .slice ao zs.length cap, undef, undef, .slice none 0 0, .pointer (some ⟨w.heap.size, 0, none⟩), undef, undef, .pointer (some ⟨b, 0, none⟩), .slice ao zs.length cap, .func (.func 65) #[] #[.pointer (some ⟨w.heap.size + 1 + 1, 0, none⟩), .pointer (some ⟨w.heap.size + 1, 0, none⟩)], undef, undef, undef, undef, undef, undef, undef, undef, undef] = #[.pointer (some ⟨b, 0, none⟩), .slice ao zs.length cap, undef, undef, .slice none 0 0, .pointer (some ⟨w.heap.size, 0, none⟩), undef, undef, .pointer (some ⟨b, 0, none⟩), .slice ao zs.length cap, .func (.func 65) #[] #[.pointer (some ⟨w.heap.size + 1 + 1, 0, none⟩), .pointer (some ⟨w.heap.size + 1, 0, none⟩)], .int .i64 (x.1 : Int), .int .i64 (x.2 : Int), undef, undef, undef, undef, undef, undef, undef] := by simp [toldR]
    rw [e]
    gi_wp2
    exact hK
  case body =>
    rintro l pre ⟨f, t⟩ W hI hR
    clear hT
    obtain ⟨ao', cap', hbx, hown⟩ := hI.row
    have c5 := hbx.cell
    have HOw := hid hown
    have HPut := hid (fun v' w' h1 h2 => hI.put hR (by omega) (u := .slice ao' pre.length cap') (v' := v') (w' := w') hown h1 h2)
    have hpl : pre.length ≤ 1000000 := Nat.le_trans (Nat.le_trans hI.fit.1 hI.fit.2) hn
    have hbg := hI.big
    clear hbx hown hI hR HI2
    gi_wp2_with (first | (gi_at_builtin; refine wpListIn_append_own _ rfl (.tmp 13) (.tmp 17) 33 rfl (w.heap.size + 1 + 1 + 1) 36 i0 (.agg #[.int .i64 0, .int .i64 0]) 2 16 Try.underlying33 HIn.out.1 HIn.out.2.1 HIn.out.2.2.1 HIn.out.2.2.2 rfl (by decide) (.slice ao' pre.length cap') pre.length (pre.flatMap p2) rfl (HOw.out.alloc _) ⟨W.heap.size, 0, none⟩ 1 1 (p2 (f, t)) rfl rfl (World.news_of_block (heap_new W _)) (fun u hu => by simp [p2] at hu; rcases hu with rfl | rfl <;> rfl) (by unfold maxLen; omega) (by omega) (by simp; omega) (fun v' w' h1 h2 _ => ?_); obtain ⟨ao2, cap2, rfl, hcell, hfz, hkp, hri⟩ := HPut.out v' w' h1 h2; rw [c5] at hcell; have HEnd := hid (And.intro hkp hri); clear h1 h2 hkp hri))
    refine ⟨?_, HEnd.out.2⟩
    rw [Hz3.out]
    exact HEnd.out.1
  case done =>
    rintro D xs W hD hS hI hK
    clear hT
    obtain ⟨ao', cap', hbx, hown⟩ := hI.row
    have c5 := hbx.cell
    have hkc : Kc W0.heap.size W (W.putObj D (.deferred none)) := Kc.grown (grownBy_putObj' _ D (.deferred none)) (fun r e => by cases e; exact ⟨hD, _, hK, rfl⟩)
    have HE : Hid (Ps (W.putObj D (.deferred none)) (.slice ao' xs.length cap') (runsP clsP zs) ∧ Below w.heap.size w (W.putObj D (.deferred none))) := by
      rw [← hS.1]
      exact ⟨own_ps (own_kc hkc hown), hkc.below hI.bel hz0 (Nat.le_refl _)⟩
    clear hI hbx hown hkc
    gi_wp2
    refine ⟨by simp, .inl ⟨_, _, rfl, run_takeDeferred hK, ?_⟩⟩
    refine ⟨_, results_tmp rfl _ _ _, ?_⟩
    exact ⟨.slice ao' xs.length cap', rfl, HE.out.1, HE.out.2⟩
  case stop => intro D xs W _ h; exact h.elim
end Od
end Go.Proofs.Ytclcmkklonnalaa

namespace Go.Proofs.Ytclcmkklonnalaa
namespace Od
open Go.RowKit

section
variable (c : Int → Int)
theorem ins_stop (x s : Int) (hs : c s = 0) (B : List Int) : ∀ A, ins c x (A ++ s :: B) = ins c x A ++ s :: B
  | [] => by
    simp only [List.nil_append, ins]
    rw [if_neg (by omega)]
    rfl
  | y :: A => by
    simp only [List.cons_append, ins]
    split
    · rw [ins_stop x s hs B A]; rfl
    · rfl
theorem ins_zero (hc : ∀ x, 0 ≤ c x) (s : Int) (hs : c s = 0) : ∀ l, ins c s l = s :: l
  | [] => rfl
  | y :: l => by
    have := hc y
    simp only [ins]
    rw [if_neg (by omega)]
theorem srt_cut (hc : ∀ x, 0 ≤ c x) (s : Int) (hs : c s = 0) (B : List Int) : ∀ A, srt c (A ++ s :: B) = srt c A ++ s :: srt c B
  | [] => ins_zero c hc s hs _
  | x :: A => by
    simp only [List.cons_append, srt]
    rw [srt_cut hc s hs B A, ins_stop c x s hs]
theorem srt_len (l : List Int) : (srt c l).length = l.length := (sw_srt c l).len
/-- What has class 0 stays where it is. -/
theorem srt_at0 (hc : ∀ x, 0 ≤ c x) (l : List Int) (i : Nat) (h : i < l.length) (h0 : c l[i] = 0) : (srt c l)[i]? = some l[i] := by
  have e : l = l.take i ++ l[i] :: l.drop (i + 1) := by rw [← List.drop_eq_getElem_cons h, List.take_append_drop]
  have e2 : (srt c (l.take i)).length = i := by rw [srt_len, List.length_take]; omega
  have e3 : srt c l = srt c (l.take i) ++ l[i] :: srt c (l.drop (i + 1)) := by
    conv => lhs; rw [e]
    exact srt_cut c hc _ h0 _ _
  rw [e3, List.getElem?_append_right (by omega), e2, Nat.sub_self]
  rfl

/-- A run, and what stands about it. -/
def RunOk (l : List Int) (x : Nat × Nat) : Prop := x.1 < x.2 ∧ x.2 ≤ l.length ∧ (x.1 = 0 ∨ c (l.getD (x.1 - 1) 0) = 0) ∧ (x.2 = l.length ∨ c (l.getD x.2 0) = 0)
theorem getD_at {l : List Int} {k : Nat} (h : k < l.length) : l.getD k 0 = l[k] := by rw [List.getD_eq_getElem?_getD, List.getElem?_eq_getElem h]; rfl
theorem st_ok (l : List Int) : ∀ k, k ≤ l.length → (∀ x ∈ (stR c (l.take k)).1, RunOk c l x) ∧ (∀ f, (stR c (l.take k)).2.1 = some f → f < k ∧ (f = 0 ∨ c (l.getD (f - 1) 0) = 0)) ∧ ((stR c (l.take k)).2.1 = none → k = 0 ∨ c (l.getD (k - 1) 0) = 0) ∧ (stR c (l.take k)).2.2 = k
  | 0, _ => ⟨fun x hx => by simp [stR] at hx, fun f hf => by simp [stR] at hf, fun _ => .inl rfl, rfl⟩
  | k + 1, h => by
    obtain ⟨h1, h2, h3, h4⟩ := st_ok l k (by omega)
    have hk : k < l.length := by omega
    rw [stR_take c l k hk]
    generalize stR c (l.take k) = s at *
    obtain ⟨dn, op, n⟩ := s
    simp only at h1 h2 h3 h4
    subst h4
    unfold stepR
    by_cases h0 : c l[n] = 0
    · rw [if_pos h0]
      refine ⟨fun x hx => ?_, fun f hf => by simp at hf, fun _ => .inr ?_, rfl⟩
      · cases op with
        | none => exact h1 x hx
        | some f =>
          rcases List.mem_append.1 hx with hx | hx
          · exact h1 x hx
          · simp at hx
            subst hx
            obtain ⟨a1, a2⟩ := h2 f rfl
            exact ⟨a1, by simp; omega, a2, .inr (by rw [getD_at hk]; exact h0)⟩
      · rw [Nat.add_sub_cancel, getD_at hk]; exact h0
    · rw [if_neg h0]
      refine ⟨h1, fun f hf => ?_, fun hf => by simp at hf, rfl⟩
      cases op with
      | none =>
        simp at hf
        subst hf
        exact ⟨Nat.lt_succ_self _, h3 rfl⟩
      | some g =>
        simp at hf
        subst hf
        obtain ⟨a1, a2⟩ := h2 g rfl
        exact ⟨by omega, a2⟩
theorem runs_ok (l : List Int) : ∀ x ∈ runsP c l, RunOk c l x := by
  intro x hx
  obtain ⟨h1, h2, h3, h4⟩ := st_ok c l l.length (Nat.le_refl _)
  rw [List.take_length] at h1 h2 h3 h4
  unfold runsP finR at hx
  generalize stR c l = s at *
  obtain ⟨dn, op, n⟩ := s
  simp only at h1 h2 h3 h4 hx
  cases op with
  | none => exact h1 x hx
  | some f =>
    rcases List.mem_append.1 hx with hx | hx
    · exact h1 x hx
    · simp at hx
      subst hx h4
      obtain ⟨a1, a2⟩ := h2 f rfl
      exact ⟨a1, Nat.le_refl _, a2, .inl rfl⟩
theorem srt_app1 (hc : ∀ x, 0 ≤ c x) (X Q : List Int) (h : ∀ s, Q.head? = some s → c s = 0) : srt c (X ++ Q) = srt c X ++ srt c Q := by
  cases Q with
  | nil => simp [srt]
  | cons s Q =>
    have hs := h s rfl
    rw [srt_cut c hc s hs]
    simp only [srt]
    rw [ins_zero c hc s hs]
theorem srt_app2 (hc : ∀ x, 0 ≤ c x) (P R : List Int) (h : ∀ s, P.getLast? = some s → c s = 0) : srt c (P ++ R) = srt c P ++ srt c R := by
  by_cases hp : P = []
  · subst hp; rfl
  · obtain ⟨P', s, rfl⟩ : ∃ P' s, P = P' ++ [s] := ⟨P.dropLast, P.getLast hp, (List.dropLast_concat_getLast hp).symm⟩
    have hs := h s (by simp)
    rw [List.append_assoc, List.singleton_append, srt_cut c hc s hs, srt_cut c hc s hs]
    simp [srt]
/-- Each run has the code points that it had. -/
theorem run_perm (hc : ∀ x, 0 ≤ c x) (l : List Int) (f t : Nat) (h : RunOk c l (f, t)) : ((l.take t).drop f).Perm (((srt c l).take t).drop f) := by
  obtain ⟨h1, h2, h3, h4⟩ := h
  simp only at h1 h2 h3 h4
  have e0 : l = l.take f ++ ((l.take t).drop f ++ l.drop t) := by
    have e1 : l.take t = l.take f ++ (l.take t).drop f := by
      conv => lhs; rw [← List.take_append_drop f (l.take t)]
      rw [List.take_take, Nat.min_eq_left (by omega)]
    rw [← List.append_assoc, ← e1, List.take_append_drop]
  have e2 : srt c l = srt c (l.take f) ++ (srt c ((l.take t).drop f) ++ srt c (l.drop t)) := by
    conv => lhs; rw [e0]
    rw [srt_app2 c hc, srt_app1 c hc]
    · intro s hs
      rw [List.head?_drop] at hs
      rcases h4 with h4 | h4
      · rw [h4, List.getElem?_eq_none (Nat.le_refl _)] at hs; cases hs
      · rw [List.getD_eq_getElem?_getD, hs] at h4; exact h4
    · intro s hs
      by_cases hf0 : f = 0
      · rw [hf0] at hs; simp at hs
      · have h3 : c (l.getD (f - 1) 0) = 0 := by
          rcases h3 with h3 | h3
          · exact absurd h3 hf0
          · exact h3
        rw [List.getLast?_eq_getElem?, List.length_take, Nat.min_eq_left (by omega), List.getElem?_take_of_lt (by omega)] at hs
        rw [List.getD_eq_getElem?_getD, hs] at h3; exact h3
  have l1 : (srt c (l.take f)).length = f := by rw [srt_len, List.length_take]; omega
  have l2 : (srt c ((l.take t).drop f)).length = t - f := by rw [srt_len, List.length_drop, List.length_take]; omega
  have e3 : ((srt c l).take t).drop f = srt c ((l.take t).drop f) := by
    rw [e2, List.take_append, List.take_append, List.take_of_length_le (by omega), List.drop_append_of_le_length (by omega), List.drop_eq_nil_of_le (by omega), List.nil_append, List.take_of_length_le (by omega), show t - (srt c (l.take f)).length - (srt c ((l.take t).drop f)).length = 0 by omega]
    simp
  rw [e3]
  exact (sw_srt c _).perm
end

theorem st_len (c : Int → Int) (l : List Int) : ∀ k, k ≤ l.length → (stR c (l.take k)).1.length ≤ k
  | 0, _ => Nat.le_refl _
  | k + 1, h => by
    have ih := st_len c l k (by omega)
    rw [stR_take c l k (by omega)]
    generalize stR c (l.take k) = s at *
    obtain ⟨dn, op, n⟩ := s
    simp only at ih
    unfold stepR
    split
    · cases op with
      | none => simp only; omega
      | some f => simp only [List.length_append, List.length_cons, List.length_nil]; omega
    · simp only; omega
theorem runs_len (c : Int → Int) (l : List Int) : (runsP c l).length ≤ l.length + 1 := by
  have h := st_len c l l.length (Nat.le_refl _)
  rw [List.take_length] at h
  unfold runsP finR
  generalize stR c l = s at *
  obtain ⟨dn, op, n⟩ := s
  simp only at h
  cases op with
  | none => simp only; omega
  | some f => simp only [List.length_append, List.length_cons, List.length_nil]; omega
/-- How often a number stands in a part. -/
def cntI (l : List Int) (f i : Nat) (v : Int) : Int := (((l.take i).drop f).count v : Nat)
theorem cntI_start (l : List Int) (f : Nat) (v : Int) : cntI l f f v = 0 := by
  unfold cntI
  rw [List.drop_eq_nil_of_le (by rw [List.length_take]; omega)]; rfl
theorem cntI_succ (l : List Int) (f i : Nat) (v : Int) (hf : f ≤ i) (hi : i < l.length) : cntI l f (i + 1) v = cntI l f i v + if l[i] = v then 1 else 0 := by
  unfold cntI
  rw [List.take_succ_eq_append_getElem hi, List.drop_append_of_le_length (by rw [List.length_take]; omega), List.count_append, List.count_singleton]
  by_cases h : l[i] = v
  · simp [h]
  · simp [h]
theorem cntI_bd (l : List Int) (f i : Nat) (v : Int) : 0 ≤ cntI l f i v ∧ cntI l f i v ≤ l.length := by
  unfold cntI
  have h1 := List.count_le_length (a := v) (l := (l.take i).drop f)
  have h2 : ((l.take i).drop f).length ≤ l.length := by rw [List.length_drop, List.length_take]; omega
  omega
theorem cntI_run {zs : List Int} {f t : Nat} (h : (f, t) ∈ runsP clsP zs) (v : Int) : cntI zs f t v = cntI (srt clsP zs) f t v := by
  unfold cntI
  rw [(run_perm clsP (fun x => (cls_bd x).1) zs f t (runs_ok clsP zs _ h)).count_eq v]
theorem runs_bd {zs : List Int} {f t : Nat} (h : (f, t) ∈ runsP clsP zs) : f < t ∧ t ≤ zs.length := ⟨(runs_ok clsP zs _ h).1, (runs_ok clsP zs _ h).2.1⟩
end Od
end Go.Proofs.Ytclcmkklonnalaa
