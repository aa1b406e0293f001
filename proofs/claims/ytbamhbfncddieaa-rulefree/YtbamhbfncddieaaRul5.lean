import Derived.Test.YtbamhbfncddieaaRul4
import Derived.BigQuiet
namespace Go.Proofs.Ytbamhbfncddieaa
namespace Ru
open Go.RowKit Od

theorem drw (w : World) (n : Nat) : Below w.heap.size w (w.drewN n) := ⟨rfl, rfl, rfl, Nat.le_refl _, fun _ _ => rfl⟩
abbrev noB : Int → Bool := fun _ => false
def hdB (q : Int → Bool) (l : List Int) : Bool := asF noB q l
theorem hdB_nil (q : Int → Bool) : hdB q [] = false := rfl
theorem hdB_cons (q : Int → Bool) (x : Int) (l : List Int) : hdB q (x :: l) = q x := by
  unfold hdB asF
  rw [if_neg (by simp)]
/-- Is the rule of a code point met? -/
def metR (r : Int) (X : List Int) (i : Nat) : Bool :=
  if r = 8204 then hdB (fun x => clsP x == 9) (X.take i).reverse || joB X i
  else if r = 8205 then hdB (fun x => clsP x == 9) (X.take i).reverse
  else if r = 183 then hdB (fun x => x == 108) (X.take i).reverse && hdB (fun x => x == 108) (X.drop (i + 1))
  else if r = 885 then hdB (fun x => decide (scP x ∈ [2])) (X.drop (i + 1))
  else if r = 1523 ∨ r = 1524 then hdB (fun x => decide (scP x ∈ [4])) (X.take i).reverse
  else if r = 12539 then X.any fun x => decide (scP x ∈ [8, 9, 10])
  else if arB r = true then !X.any etB
  else if etB r = true then !X.any arB
  else true
/-- What met holds: the view, and boxes of it and of the place. -/
structure Ms (w : World) (v b : Nat) (ao : Option Addr) (n cap : Nat) (X : List Int) (pv pi : Nat) (i : Nat) (W : World) : Prop where
  vw : Vw W v b ao n cap X
  bv : Bx W pv (.pointer (some ⟨v, 0, none⟩)) 87
  bi : Bx W pi (.int .i64 i) 3
  ok : Ok w.heap.size w W
theorem Ms.step {w : World} {v b : Nat} {ao : Option Addr} {n cap : Nat} {X : List Int} {pv pi i : Nat} {W W' : World} (h : Ms w v b ao n cap X pv pi i W) (hb : Below W.heap.size W W') : Ms w v b ao n cap X pv pi i W' := ⟨h.vw.step hb, h.bv.step hb, h.bi.step hb, h.ok.step hb⟩
set_option maxRecDepth 100000 in
set_option maxHeartbeats 2000000 in
theorem ahead_any {w W : World} {v b : Nat} {ao : Option Addr} {n cap : Nat} {X : List Int} {pv pi i : Nat} (hM : Ms w v b ao n cap X pv pi i W) (hn : n ≤ 1000000) (hi : i < n) {gq : Nat} {pq cq : Array Value} {q : Int → Bool} {Gq : World → Prop} (hQ : Ask gq pq cq q Gq) (h2 : Gq W) :
    Calls Try.prog 67 #[.func (.func gq) pq cq, .pointer (some ⟨pv, 0, none⟩), .pointer (some ⟨pi, 0, none⟩)] W fun e w' => e = .returned (.bool (hdB q (X.take i).reverse)) ∧ Below W.heap.size W w' := by
  have HN := hr (next_dn hM.vw hn i (by omega) ask_no hQ trivial h2)
  have c0 := hM.bv.cell
  have c1 := hM.bi.cell
  have HE : Hid (hdB q (X.take i).reverse = asF (fun _ => false) q (X.take i).reverse) := rfl
  clear hM hn hi hQ h2
  generalize asF (fun _ => false) q (X.take i).reverse = t at *
  go_enter Try.func67, Try.ntmps67
  go_wp2_with fail
  refine HN.out.mono ?_
  rintro e w1 ⟨rfl, hb⟩
  have HB := hr hb
  clear hb
  go_wp2_with fail
  go_ret
  exact ⟨ret_bool HE.out.symm, HB.out⟩
set_option maxRecDepth 100000 in
set_option maxHeartbeats 2000000 in
theorem behind_any {w W : World} {v b : Nat} {ao : Option Addr} {n cap : Nat} {X : List Int} {pv pi i : Nat} (hM : Ms w v b ao n cap X pv pi i W) (hn : n ≤ 1000000) (hi : i < n) {gq : Nat} {pq cq : Array Value} {q : Int → Bool} {Gq : World → Prop} (hQ : Ask gq pq cq q Gq) (h2 : Gq W) :
    Calls Try.prog 70 #[.func (.func gq) pq cq, .pointer (some ⟨pv, 0, none⟩), .pointer (some ⟨pi, 0, none⟩)] W fun e w' => e = .returned (.bool (hdB q (X.drop (i + 1)))) ∧ Below W.heap.size W w' := by
  have HN := hr (next_up hM.vw hn i (by omega) ask_no hQ trivial h2)
  have c0 := hM.bv.cell
  have c1 := hM.bi.cell
  have HE : Hid (hdB q (X.drop (i + 1)) = asF (fun _ => false) q (X.drop (i + 1))) := rfl
  clear hM hn hi hQ h2
  generalize asF (fun _ => false) q (X.drop (i + 1)) = t at *
  go_enter Try.func70, Try.ntmps70
  go_wp2_with fail
  refine HN.out.mono ?_
  rintro e w1 ⟨rfl, hb⟩
  have HB := hr hb
  clear hb
  go_wp2_with fail
  go_ret
  exact ⟨ret_bool HE.out.symm, HB.out⟩
set_option maxRecDepth 100000 in
set_option maxHeartbeats 8000000 in
theorem met_any {w : World} {v b : Nat} {ao : Option Addr} {n cap : Nat} {X : List Int} (hV : Vw w v b ao n cap X) (hn : n ≤ 1000000) (i : Nat) (hi : i < n) (hx : i < X.length) :
    Calls Try.prog 43 #[.pointer (some ⟨v, 0, none⟩), .int .i64 i] w fun e w' => e = .returned (.bool (metR X[i] X i)) ∧ Below w.heap.size w w' := by
  obtain ⟨bb, off, hao, hb, d1⟩ := hV.sl.at_ i hx
  subst hao
  have HAh := hr (fun (W : World) (h : Ms w v b (some ⟨bb, off, none⟩) n cap X w.heap.size (w.heap.size + 1) i W) (gq : Nat) (pq cq : Array Value) (q : Int → Bool) (Gq : World → Prop) (hQ : Ask gq pq cq q Gq) (h2 : Gq W) => ahead_any h hn hi hQ h2)
  have HBe := hr (fun (W : World) (h : Ms w v b (some ⟨bb, off, none⟩) n cap X w.heap.size (w.heap.size + 1) i W) (gq : Nat) (pq cq : Array Value) (q : Int → Bool) (Gq : World → Prop) (hQ : Ask gq pq cq q Gq) (h2 : Gq W) => behind_any h hn hi hQ h2)
  have HJo := hr (fun (W : World) (h : Ms w v b (some ⟨bb, off, none⟩) n cap X w.heap.size (w.heap.size + 1) i W) => joins_any h.vw hn i hi)
  have HSc := hr (fun (A : World) (l : List Int) (n : Nat) (g : Nat) (h : Vb A v b) (hn : n = l.length) (hg : g = A.heap.size) => scr_new h l n hn g hg)
  have HAr := hr (fun (r : Int) (W : World) => ar_any r W)
  have HEt := hr (fun (r : Int) (W : World) => et_any r W)
  have hb0 : Below w.heap.size w ((w.alloc (.cells #[.pointer (some ⟨v, 0, none⟩)] 87)).alloc (.cells #[.int .i64 i] 3)) := ((Below.refl _ _).alloc (Nat.le_refl _) _).alloc (by simp) _
  have x1 : Bx (w.alloc (.cells #[.pointer (some ⟨v, 0, none⟩)] 87)) w.heap.size (.pointer (some ⟨v, 0, none⟩)) 87 := Bx.new _ _ _
  have x2 := x1.alloc (.cells #[.int .i64 i] 3)
  have x3 : Bx ((w.alloc (.cells #[.pointer (some ⟨v, 0, none⟩)] 87)).alloc (.cells #[.int .i64 i] 3)) (w.heap.size + 1) (.int .i64 i) 3 := by
    have h := Bx.new (w.alloc (.cells #[.pointer (some ⟨v, 0, none⟩)] 87)) (.int .i64 i) 3
    have e : (w.alloc (.cells #[.pointer (some ⟨v, 0, none⟩)] 87)).heap.size = w.heap.size + 1 := by simp
    rw [e] at h
    exact h
  have H0 : Hid (Ms w v b (some ⟨bb, off, none⟩) n cap X w.heap.size (w.heap.size + 1) i ((w.alloc (.cells #[.pointer (some ⟨v, 0, none⟩)] 87)).alloc (.cells #[.int .i64 i] 3))) := ⟨hV.step hb0, x2, x3, hb0, hb0.size⟩
  have e1 := x2.cell
  have e2 := x3.cell
  have e3 : ((w.alloc (.cells #[.pointer (some ⟨v, 0, none⟩)] 87)).alloc (.cells #[.int .i64 i] 3)).cell? ⟨v, 1, none⟩ = some (.slice (some ⟨bb, off, none⟩) n cap) := H0.out.vw.blk.cell 1
  have e4 := (hb0.cell (p := ⟨bb, off + i, none⟩) hb).trans d1
  have HM : Hid (metR X[i] X i = if X[i] = 8204 then hdB (fun x => clsP x == 9) (X.take i).reverse || joB X i
    else if X[i] = 8205 then hdB (fun x => clsP x == 9) (X.take i).reverse
    else if X[i] = 183 then hdB (fun x => x == 108) (X.take i).reverse && hdB (fun x => x == 108) (X.drop (i + 1))
    else if X[i] = 885 then hdB (fun x => decide (scP x ∈ [2])) (X.drop (i + 1))
    else if X[i] = 1523 ∨ X[i] = 1524 then hdB (fun x => decide (scP x ∈ [4])) (X.take i).reverse
    else if X[i] = 12539 then X.any fun x => decide (scP x ∈ [8, 9, 10])
    else if arB X[i] = true then !X.any etB
    else if etB X[i] = true then !X.any arB
    else true) := rfl
  generalize X[i] = r at *
  have HT : Hid (metR r X i = metR r X i) := rfl
  clear hV hn hb d1 hb0 x1 x2 x3
  have z1 : (i : Int) < (n : Int) := by omega
  by_cases h8204 : r = 8204
  · rw [if_pos h8204] at HM
    have p : (r == 8204) = true := beq_iff_eq.2 h8204
    clear h8204
    go_enter Try.func43, Try.ntmps43
    go_wp2_with fail
    go_quiet (fail)
    have H1 := hr (H0.out.step (drw _ nq))
    clear e1 e2 e3 e4 H0
    generalize World.drewN ((w.alloc (.cells #[.pointer (some ⟨v, 0, none⟩)] 87)).alloc (.cells #[.int .i64 i] 3)) nq = W1 at *
    have c0 := H1.out.bv.cell
    have c1 := H1.out.bi.cell
    go_wp2_with fail
    refine (HAh.out _ H1.out _ _ _ _ _ (ask_vir v b) H1.out.vw.vb).mono ?_
    rintro e W2 ⟨rfl, hb⟩
    have H2 := hr (H1.out.step hb)
    clear hb
    have c02 := H2.out.bv.cell
    have c12 := H2.out.bi.cell
    generalize hdB (fun x => clsP x == 9) (X.take i).reverse = q1 at *
    cases q1
    · rw [Bool.false_or] at HM
      go_wp2_with fail
      refine (HJo.out _ H2.out).mono ?_
      rintro e W3 ⟨rfl, hb⟩
      have H3 := hr (H2.out.step hb)
      clear hb
      have c03 := H3.out.bv.cell
      have c13 := H3.out.bi.cell
      go_wp2_with fail
      go_ret
      exact ⟨ret_bool HM.out.symm, H3.out.ok.1⟩
    · rw [Bool.true_or] at HM
      go_wp2_with fail
      go_ret
      exact ⟨ret_bool HM.out.symm, H2.out.ok.1⟩
  by_cases h8205 : r = 8205
  · rw [if_neg h8204, if_pos h8205] at HM
    have n8204 : (r == 8204) = false := beq_eq_false_iff_ne.2 (by omega)
    have p : (r == 8205) = true := beq_iff_eq.2 h8205
    clear h8204 h8205
    go_enter Try.func43, Try.ntmps43
    go_wp2_with fail
    go_quiet (fail)
    have H1 := hr (H0.out.step (drw _ nq))
    clear e1 e2 e3 e4 H0
    generalize World.drewN ((w.alloc (.cells #[.pointer (some ⟨v, 0, none⟩)] 87)).alloc (.cells #[.int .i64 i] 3)) nq = W1 at *
    have c0 := H1.out.bv.cell
    have c1 := H1.out.bi.cell
    go_wp2_with fail
    refine (HAh.out _ H1.out _ _ _ _ _ (ask_vir v b) H1.out.vw.vb).mono ?_
    rintro e W2 ⟨rfl, hb⟩
    have H2 := hr (H1.out.step hb)
    clear hb
    have c02 := H2.out.bv.cell
    have c12 := H2.out.bi.cell
    generalize hdB (fun x => clsP x == 9) (X.take i).reverse = q1 at *
    go_wp2_with fail
    go_ret
    exact ⟨ret_bool HM.out.symm, H2.out.ok.1⟩
  by_cases h183 : r = 183
  · rw [if_neg h8204, if_neg h8205, if_pos h183] at HM
    have n8204 : (r == 8204) = false := beq_eq_false_iff_ne.2 (by omega)
    have n8205 : (r == 8205) = false := beq_eq_false_iff_ne.2 (by omega)
    have p : (r == 183) = true := beq_iff_eq.2 h183
    clear h8204 h8205 h183
    go_enter Try.func43, Try.ntmps43
    go_wp2_with fail
    go_quiet (fail)
    have H1 := hr (H0.out.step (drw _ nq))
    clear e1 e2 e3 e4 H0
    generalize World.drewN ((w.alloc (.cells #[.pointer (some ⟨v, 0, none⟩)] 87)).alloc (.cells #[.int .i64 i] 3)) nq = W1 at *
    have c0 := H1.out.bv.cell
    have c1 := H1.out.bi.cell
    go_wp2_with fail
    refine (HAh.out _ H1.out _ _ _ _ _ ask_el trivial).mono ?_
    rintro e W2 ⟨rfl, hb⟩
    have H2 := hr (H1.out.step hb)
    clear hb
    have c02 := H2.out.bv.cell
    have c12 := H2.out.bi.cell
    generalize hdB (fun x => x == 108) (X.take i).reverse = q1 at *
    cases q1
    · rw [Bool.false_and] at HM
      go_wp2_with fail
      go_ret
      exact ⟨ret_bool HM.out.symm, H2.out.ok.1⟩
    · rw [Bool.true_and] at HM
      go_wp2_with fail
      refine (HBe.out _ H2.out _ _ _ _ _ ask_el trivial).mono ?_
      rintro e W3 ⟨rfl, hb⟩
      have H3 := hr (H2.out.step hb)
      clear hb
      have c03 := H3.out.bv.cell
      have c13 := H3.out.bi.cell
      generalize hdB (fun x => x == 108) (X.drop (i + 1)) = q2 at *
      go_wp2_with fail
      go_ret
      exact ⟨ret_bool HM.out.symm, H3.out.ok.1⟩
  by_cases h885 : r = 885
  · rw [if_neg h8204, if_neg h8205, if_neg h183, if_pos h885] at HM
    have n8204 : (r == 8204) = false := beq_eq_false_iff_ne.2 (by omega)
    have n8205 : (r == 8205) = false := beq_eq_false_iff_ne.2 (by omega)
    have n183 : (r == 183) = false := beq_eq_false_iff_ne.2 (by omega)
    have p : (r == 885) = true := beq_iff_eq.2 h885
    clear h8204 h8205 h183 h885
    go_enter Try.func43, Try.ntmps43
    go_wp2_with fail
    go_quiet (fail)
    have H1 := hr (H0.out.step (drw _ nq))
    clear e1 e2 e3 e4 H0
    generalize World.drewN ((w.alloc (.cells #[.pointer (some ⟨v, 0, none⟩)] 87)).alloc (.cells #[.int .i64 i] 3)) nq = W1 at *
    have c0 := H1.out.bv.cell
    have c1 := H1.out.bi.cell
    go_wp2_with fail
    refine (HSc.out W1 [2] 1 _ H1.out.vw.vb rfl rfl).mono ?_
    rintro e W2 ⟨po, pv, rfl, hq, hb⟩
    have H2 := hr (H1.out.step hb)
    have HQ := hr hq
    clear hq hb
    have c02 := H2.out.bv.cell
    have c12 := H2.out.bi.cell
    go_wp2_with fail
    refine (HBe.out _ H2.out _ _ _ _ _ (ask_scr v b pv po W1.heap.size [2] (by simp)) HQ.out).mono ?_
    rintro e W3 ⟨rfl, hb⟩
    have H3 := hr (H2.out.step hb)
    clear hb
    have c03 := H3.out.bv.cell
    have c13 := H3.out.bi.cell
    generalize hdB (fun x => decide (scP x ∈ [2])) (X.drop (i + 1)) = q1 at *
    go_wp2_with fail
    go_ret
    exact ⟨ret_bool HM.out.symm, H3.out.ok.1⟩
  by_cases h1523 : r = 1523
  · rw [if_neg h8204, if_neg h8205, if_neg h183, if_neg h885, if_pos (.inl h1523)] at HM
    have n8204 : (r == 8204) = false := beq_eq_false_iff_ne.2 (by omega)
    have n8205 : (r == 8205) = false := beq_eq_false_iff_ne.2 (by omega)
    have n183 : (r == 183) = false := beq_eq_false_iff_ne.2 (by omega)
    have n885 : (r == 885) = false := beq_eq_false_iff_ne.2 (by omega)
    have p : (r == 1523) = true := beq_iff_eq.2 h1523
    clear h8204 h8205 h183 h885 h1523
    go_enter Try.func43, Try.ntmps43
    go_wp2_with fail
    go_quiet (fail)
    have H1 := hr (H0.out.step (drw _ nq))
    clear e1 e2 e3 e4 H0
    generalize World.drewN ((w.alloc (.cells #[.pointer (some ⟨v, 0, none⟩)] 87)).alloc (.cells #[.int .i64 i] 3)) nq = W1 at *
    have c0 := H1.out.bv.cell
    have c1 := H1.out.bi.cell
    go_wp2_with fail
    refine (HSc.out W1 [4] 1 _ H1.out.vw.vb rfl rfl).mono ?_
    rintro e W2 ⟨po, pv, rfl, hq, hb⟩
    have H2 := hr (H1.out.step hb)
    have HQ := hr hq
    clear hq hb
    have c02 := H2.out.bv.cell
    have c12 := H2.out.bi.cell
    go_wp2_with fail
    refine (HAh.out _ H2.out _ _ _ _ _ (ask_scr v b pv po W1.heap.size [4] (by simp)) HQ.out).mono ?_
    rintro e W3 ⟨rfl, hb⟩
    have H3 := hr (H2.out.step hb)
    clear hb
    have c03 := H3.out.bv.cell
    have c13 := H3.out.bi.cell
    generalize hdB (fun x => decide (scP x ∈ [4])) (X.take i).reverse = q1 at *
    go_wp2_with fail
    go_ret
    exact ⟨ret_bool HM.out.symm, H3.out.ok.1⟩
  by_cases h1524 : r = 1524
  · rw [if_neg h8204, if_neg h8205, if_neg h183, if_neg h885, if_pos (.inr h1524)] at HM
    have n8204 : (r == 8204) = false := beq_eq_false_iff_ne.2 (by omega)
    have n8205 : (r == 8205) = false := beq_eq_false_iff_ne.2 (by omega)
    have n183 : (r == 183) = false := beq_eq_false_iff_ne.2 (by omega)
    have n885 : (r == 885) = false := beq_eq_false_iff_ne.2 (by omega)
    have n1523 : (r == 1523) = false := beq_eq_false_iff_ne.2 (by omega)
    have p : (r == 1524) = true := beq_iff_eq.2 h1524
    clear h8204 h8205 h183 h885 h1523 h1524
    go_enter Try.func43, Try.ntmps43
    go_wp2_with fail
    go_quiet (fail)
    have H1 := hr (H0.out.step (drw _ nq))
    clear e1 e2 e3 e4 H0
    generalize World.drewN ((w.alloc (.cells #[.pointer (some ⟨v, 0, none⟩)] 87)).alloc (.cells #[.int .i64 i] 3)) nq = W1 at *
    have c0 := H1.out.bv.cell
    have c1 := H1.out.bi.cell
    go_wp2_with fail
    refine (HSc.out W1 [4] 1 _ H1.out.vw.vb rfl rfl).mono ?_
    rintro e W2 ⟨po, pv, rfl, hq, hb⟩
    have H2 := hr (H1.out.step hb)
    have HQ := hr hq
    clear hq hb
    have c02 := H2.out.bv.cell
    have c12 := H2.out.bi.cell
    go_wp2_with fail
    refine (HAh.out _ H2.out _ _ _ _ _ (ask_scr v b pv po W1.heap.size [4] (by simp)) HQ.out).mono ?_
    rintro e W3 ⟨rfl, hb⟩
    have H3 := hr (H2.out.step hb)
    clear hb
    have c03 := H3.out.bv.cell
    have c13 := H3.out.bi.cell
    generalize hdB (fun x => decide (scP x ∈ [4])) (X.take i).reverse = q1 at *
    go_wp2_with fail
    go_ret
    exact ⟨ret_bool HM.out.symm, H3.out.ok.1⟩
  by_cases h12539 : r = 12539
  · rw [if_neg h8204, if_neg h8205, if_neg h183, if_neg h885, if_neg (by omega), if_pos h12539] at HM
    have n8204 : (r == 8204) = false := beq_eq_false_iff_ne.2 (by omega)
    have n8205 : (r == 8205) = false := beq_eq_false_iff_ne.2 (by omega)
    have n183 : (r == 183) = false := beq_eq_false_iff_ne.2 (by omega)
    have n885 : (r == 885) = false := beq_eq_false_iff_ne.2 (by omega)
    have n1523 : (r == 1523) = false := beq_eq_false_iff_ne.2 (by omega)
    have n1524 : (r == 1524) = false := beq_eq_false_iff_ne.2 (by omega)
    have p : (r == 12539) = true := beq_iff_eq.2 h12539
    clear h8204 h8205 h183 h885 h1523 h1524 h12539
    go_enter Try.func43, Try.ntmps43
    go_wp2_with fail
    go_quiet (fail)
    have H1 := hr (H0.out.step (drw _ nq))
    clear e1 e2 e3 e4 H0
    generalize World.drewN ((w.alloc (.cells #[.pointer (some ⟨v, 0, none⟩)] 87)).alloc (.cells #[.int .i64 i] 3)) nq = W1 at *
    have c0 := H1.out.bv.cell
    have c1 := H1.out.bi.cell
    have c2 : W1.cell? ⟨v, 2, none⟩ = some (.bool (X.any fun x => decide (scP x ∈ [8, 9, 10]))) := H1.out.vw.blk.cell 2
    generalize (X.any fun x => decide (scP x ∈ [8, 9, 10])) = q1 at *
    go_wp2_with fail
    go_ret
    exact ⟨ret_bool HM.out.symm, H1.out.ok.1⟩
  rw [if_neg h8204, if_neg h8205, if_neg h183, if_neg h885, if_neg (by omega), if_neg h12539] at HM
  have n8204 : (r == 8204) = false := beq_eq_false_iff_ne.2 (by omega)
  have n8205 : (r == 8205) = false := beq_eq_false_iff_ne.2 (by omega)
  have n183 : (r == 183) = false := beq_eq_false_iff_ne.2 (by omega)
  have n885 : (r == 885) = false := beq_eq_false_iff_ne.2 (by omega)
  have n1523 : (r == 1523) = false := beq_eq_false_iff_ne.2 (by omega)
  have n1524 : (r == 1524) = false := beq_eq_false_iff_ne.2 (by omega)
  have n12539 : (r == 12539) = false := beq_eq_false_iff_ne.2 (by omega)
  clear h8204 h8205 h183 h885 h1523 h1524 h12539
  cases ha : arB r
  · rw [ha, if_neg (by simp)] at HM
    cases he : etB r
    · rw [he, if_neg (by simp)] at HM
      go_enter Try.func43, Try.ntmps43
      go_wp2_with fail
      go_quiet (fail)
      have H1 := hr (H0.out.step (drw _ nq))
      clear e1 e2 e3 e4 H0
      generalize World.drewN ((w.alloc (.cells #[.pointer (some ⟨v, 0, none⟩)] 87)).alloc (.cells #[.int .i64 i] 3)) nq = W1 at *
      have c0 := H1.out.bv.cell
      have c1 := H1.out.bi.cell
      go_wp2_with fail
      refine (HAr.out _ _).mono ?_
      rw [ha]
      rintro e W2 ⟨rfl, rfl⟩
      go_wp2_with fail
      refine (HEt.out _ _).mono ?_
      rw [he]
      rintro e W3 ⟨rfl, rfl⟩
      go_wp2_with fail
      go_ret
      exact ⟨ret_bool HM.out.symm, H1.out.ok.1⟩
    · rw [he, if_pos rfl] at HM
      go_enter Try.func43, Try.ntmps43
      go_wp2_with fail
      go_quiet (fail)
      have H1 := hr (H0.out.step (drw _ nq))
      clear e1 e2 e3 e4 H0
      generalize World.drewN ((w.alloc (.cells #[.pointer (some ⟨v, 0, none⟩)] 87)).alloc (.cells #[.int .i64 i] 3)) nq = W1 at *
      have c0 := H1.out.bv.cell
      have c1 := H1.out.bi.cell
      have c3 : W1.cell? ⟨v, 3, none⟩ = some (.bool (X.any arB)) := H1.out.vw.blk.cell 3
      generalize X.any arB = q1 at *
      go_wp2_with fail
      refine (HAr.out _ _).mono ?_
      rw [ha]
      rintro e W2 ⟨rfl, rfl⟩
      go_wp2_with fail
      refine (HEt.out _ _).mono ?_
      rw [he]
      rintro e W3 ⟨rfl, rfl⟩
      go_wp2_with fail
      go_ret
      exact ⟨ret_bool HM.out.symm, H1.out.ok.1⟩
  · rw [ha, if_pos rfl] at HM
    go_enter Try.func43, Try.ntmps43
    go_wp2_with fail
    go_quiet (fail)
    have H1 := hr (H0.out.step (drw _ nq))
    clear e1 e2 e3 e4 H0
    generalize World.drewN ((w.alloc (.cells #[.pointer (some ⟨v, 0, none⟩)] 87)).alloc (.cells #[.int .i64 i] 3)) nq = W1 at *
    have c0 := H1.out.bv.cell
    have c1 := H1.out.bi.cell
    have c3 : W1.cell? ⟨v, 4, none⟩ = some (.bool (X.any etB)) := H1.out.vw.blk.cell 4
    generalize X.any etB = q1 at *
    go_wp2_with fail
    refine (HAr.out _ _).mono ?_
    rw [ha]
    rintro e W2 ⟨rfl, rfl⟩
    go_wp2_with fail
    go_ret
    exact ⟨ret_bool HM.out.symm, H1.out.ok.1⟩
end Ru
end Go.Proofs.Ytbamhbfncddieaa
