import Derived.Test.YtbamhbfncddieaaRul3
namespace Go.Proofs.Ytbamhbfncddieaa
namespace Ru
open Go.RowKit Od

/-- What is asked of the first that isn't skipped; where there is none, no. -/
def asF (sk q : Int → Bool) : List Int → Bool
  | [] => false
  | x :: l => if sk x = true then asF sk q l else q x
theorem take_rev (X : List Int) (m : Nat) (h : m < X.length) : (X.take (m + 1)).reverse = X[m] :: (X.take m).reverse := by
  rw [List.take_succ_eq_append_getElem h, List.reverse_append]; rfl
set_option maxRecDepth 100000 in
set_option maxHeartbeats 4000000 in
theorem next_dn {w : World} {v b : Nat} {ao : Option Addr} {n cap : Nat} {X : List Int} (hV : Vw w v b ao n cap X) (hn : n ≤ 1000000) (i : Nat) (hi : i ≤ n) {gs gq : Nat} {ps cs pq cq : Array Value} {sk q : Int → Bool} {Gs Gq : World → Prop}
    (hA : Ask gs ps cs sk Gs) (hQ : Ask gq pq cq q Gq) (h1 : Gs w) (h2 : Gq w) :
    Calls Try.prog 68 #[.pointer (some ⟨v, 0, none⟩), .int .i64 i, .int .i64 (-1), .func (.func gs) ps cs, .func (.func gq) pq cq] w fun e w' => e = .returned (.bool (asF sk q (X.take i).reverse)) ∧ Below w.heap.size w w' := by
  have HA := hr hA
  have HQ := hr hQ
  have hen := hA.enter
  have hen2 := hQ.enter
  have H0 : Hid (Vw w v b ao n cap X ∧ Gs w ∧ Gq w ∧ Ok w.heap.size w w) := ⟨hV, h1, h2, Ok.start w⟩
  clear hV hA hQ h1 h2
  go_enter Try.func68, Try.ntmps68
  go_wp2_with fail
  go_loopg [1] i (fun gg vi wr => ∃ k : Nat, vi = .int .i64 ((k : Int) - 1) ∧ k ≤ i ∧ gg = k ∧ Hid (asF sk q (X.take i).reverse = asF sk q (X.take k).reverse ∧ Vw wr v b ao n cap X ∧ Gs wr ∧ Gq wr ∧ Ok w.heap.size w wr))
  case atStart => exact ⟨i, by go_num, Nat.le_refl _, rfl, rfl, H0.out⟩
  case round =>
    obtain ⟨k, rfl, hk, hg, H⟩ := hrel
    have HG := hr hg
    clear hg H0
    cases k with
    | zero =>
      have HE : Hid (asF sk q (X.take i).reverse = false) := by show _ = _; rw [H.out.1]; rfl
      have e1 : ((0 : Nat) : Int) - 1 = -1 := by omega
      rw [e1]
      go_wp2_with fail
      go_ret
      exact ⟨ret_bool HE.out.symm, H.out.2.2.2.2.1⟩
    | succ m =>
      have e1 : ((m + 1 : Nat) : Int) - 1 = (m : Int) := by omega
      rw [e1]
      clear e1
      have hlx : m < X.length := by rw [H.out.2.1.len]; omega
      have c1 : wr.cell? ⟨v, 1, none⟩ = some (.slice ao n cap) := H.out.2.1.blk.cell 1
      obtain ⟨bb, off, rfl, hb, d1⟩ := H.out.2.1.sl.at_ m hlx
      have z0 : (0 : Int) ≤ (m : Int) := by omega
      have z1 : (m : Int) < (n : Int) := by omega
      have HE : Hid (asF sk q (X.take i).reverse = if sk X[m] = true then asF sk q (X.take m).reverse else q X[m]) := by
        show _ = _
        rw [H.out.1, take_rev X m hlx]; rfl
      have HS := hr (HA.out.call wr X[m] H.out.2.2.1)
      have HP := hr (fun (W : World) (h : Gq W) => HQ.out.call W X[m] h)
      generalize X[m] = x at *
      go_wp2_with fail
      refine HS.out.mono ?_
      rintro e w1 ⟨rfl, hb1⟩
      have H1 := hr (⟨H.out.2.1.step hb1, HA.out.keep _ _ H.out.2.2.1 hb1, HQ.out.keep _ _ H.out.2.2.2.1 hb1, H.out.2.2.2.2.step hb1⟩ : Vw w1 v b (some ⟨bb, off, none⟩) n cap X ∧ Gs w1 ∧ Gq w1 ∧ Ok w.heap.size w w1)
      have d1' := (hb1.cell (p := ⟨bb, off + m, none⟩) hb).trans d1
      have c1' : w1.cell? ⟨v, 1, none⟩ = some (.slice (some ⟨bb, off, none⟩) n cap) := H1.out.1.blk.cell 1
      clear hb1 H HS c1 d1
      generalize sk x = sx at *
      cases sx
      · rw [if_neg (by simp)] at HE
        go_wp2_with fail
        refine (HP.out w1 H1.out.2.2.1).mono ?_
        rintro e w2 ⟨rfl, hb2⟩
        have HO := hr (H1.out.2.2.2.step hb2)
        clear hb2
        go_wp2_with fail
        try rw [Exit.noGoto_ret]
        go_ret
        exact ⟨ret_bool HE.out.symm, HO.out.1⟩
      · rw [if_pos rfl] at HE
        go_wp2_with fail
        go_roundg m
        case measure => rw [HG.out]; omega
        case rel => exact ⟨m, by go_num, by omega, rfl, HE.out, H1.out⟩
set_option maxRecDepth 100000 in
set_option maxHeartbeats 4000000 in
theorem next_up {w : World} {v b : Nat} {ao : Option Addr} {n cap : Nat} {X : List Int} (hV : Vw w v b ao n cap X) (hn : n ≤ 1000000) (i : Nat) (hi : i < n) {gs gq : Nat} {ps cs pq cq : Array Value} {sk q : Int → Bool} {Gs Gq : World → Prop}
    (hA : Ask gs ps cs sk Gs) (hQ : Ask gq pq cq q Gq) (h1 : Gs w) (h2 : Gq w) :
    Calls Try.prog 68 #[.pointer (some ⟨v, 0, none⟩), .int .i64 i, .int .i64 1, .func (.func gs) ps cs, .func (.func gq) pq cq] w fun e w' => e = .returned (.bool (asF sk q (X.drop (i + 1)))) ∧ Below w.heap.size w w' := by
  have HA := hr hA
  have HQ := hr hQ
  have hen := hA.enter
  have hen2 := hQ.enter
  have H0 : Hid (Vw w v b ao n cap X ∧ Gs w ∧ Gq w ∧ Ok w.heap.size w w) := ⟨hV, h1, h2, Ok.start w⟩
  clear hV hA hQ h1 h2
  go_enter Try.func68, Try.ntmps68
  go_wp2_with fail
  go_loopg [1] (n - (i + 1)) (fun gg vi wr => ∃ m : Nat, vi = .int .i64 (m : Int) ∧ m ≤ n ∧ gg = n - m ∧ Hid (asF sk q (X.drop (i + 1)) = asF sk q (X.drop m) ∧ Vw wr v b ao n cap X ∧ Gs wr ∧ Gq wr ∧ Ok w.heap.size w wr))
  case atStart => exact ⟨i + 1, by go_num, by omega, rfl, rfl, H0.out⟩
  case round =>
    obtain ⟨m, rfl, hm, hg, H⟩ := hrel
    have HG := hr hg
    clear hg H0
    have c1 : wr.cell? ⟨v, 1, none⟩ = some (.slice ao n cap) := H.out.2.1.blk.cell 1
    have z0 : (0 : Int) ≤ (m : Int) := by omega
    by_cases hlt : m < n
    · have hlx : m < X.length := by rw [H.out.2.1.len]; omega
      obtain ⟨bb, off, rfl, hb, d1⟩ := H.out.2.1.sl.at_ m hlx
      have z1 : (m : Int) < (n : Int) := by omega
      have HE : Hid (asF sk q (X.drop (i + 1)) = if sk X[m] = true then asF sk q (X.drop (m + 1)) else q X[m]) := by
        show _ = _
        rw [H.out.1, List.drop_eq_getElem_cons hlx]; rfl
      have HS := hr (HA.out.call wr X[m] H.out.2.2.1)
      have HP := hr (fun (W : World) (h : Gq W) => HQ.out.call W X[m] h)
      generalize X[m] = x at *
      go_wp2_with fail
      refine HS.out.mono ?_
      rintro e w1 ⟨rfl, hb1⟩
      have H1 := hr (⟨H.out.2.1.step hb1, HA.out.keep _ _ H.out.2.2.1 hb1, HQ.out.keep _ _ H.out.2.2.2.1 hb1, H.out.2.2.2.2.step hb1⟩ : Vw w1 v b (some ⟨bb, off, none⟩) n cap X ∧ Gs w1 ∧ Gq w1 ∧ Ok w.heap.size w w1)
      have d1' := (hb1.cell (p := ⟨bb, off + m, none⟩) hb).trans d1
      have c1' : w1.cell? ⟨v, 1, none⟩ = some (.slice (some ⟨bb, off, none⟩) n cap) := H1.out.1.blk.cell 1
      clear hb1 H HS c1 d1
      generalize sk x = sx at *
      cases sx
      · rw [if_neg (by simp)] at HE
        go_wp2_with fail
        refine (HP.out w1 H1.out.2.2.1).mono ?_
        rintro e w2 ⟨rfl, hb2⟩
        have HO := hr (H1.out.2.2.2.step hb2)
        clear hb2
        go_wp2_with fail
        try rw [Exit.noGoto_ret]
        go_ret
        exact ⟨ret_bool HE.out.symm, HO.out.1⟩
      · rw [if_pos rfl] at HE
        go_wp2_with fail
        go_roundg (n - (m + 1))
        case measure => rw [HG.out]; omega
        case rel => exact ⟨m + 1, by go_num, by omega, rfl, HE.out, H1.out⟩
    · have HE : Hid (asF sk q (X.drop (i + 1)) = false) := by show _ = _; rw [H.out.1, List.drop_eq_nil_of_le (by rw [H.out.2.1.len]; omega)]; rfl
      have z1 : ¬ (m : Int) < (n : Int) := by omega
      go_wp2_with fail
      go_ret
      exact ⟨ret_bool HE.out.symm, H.out.2.2.2.2.1⟩
/-- Would letters be joined? -/
def joB (X : List Int) (i : Nat) : Bool := asF (fun x => decide (jnP x ∈ [4])) (fun x => decide (jnP x ∈ [2])) (X.take i).reverse && asF (fun x => decide (jnP x ∈ [4])) (fun x => decide (jnP x ∈ [2, 3])) (X.drop (i + 1))
set_option maxRecDepth 100000 in
set_option maxHeartbeats 4000000 in
theorem joins_any {w : World} {v b : Nat} {ao : Option Addr} {n cap : Nat} {X : List Int} (hV : Vw w v b ao n cap X) (hn : n ≤ 1000000) (i : Nat) (hi : i < n) :
    Calls Try.prog 72 #[.pointer (some ⟨v, 0, none⟩), .int .i64 i] w fun e w' => e = .returned (.bool (joB X i)) ∧ Below w.heap.size w w' := by
  have HJ := hr (fun (A : World) (l : List Int) (n : Nat) (g : Nat) (h : Vb A v b) (hn : n = l.length) (hg : g = A.heap.size) => joi_new h l n hn g hg)
  have HD := hr (fun (W : World) (h : Vw W v b ao n cap X) (g1 p1 v1 g2 p2 v2 : Nat) (l1 l2 : List Int) (k1 : l1.length ≤ 1000) (k2 : l2.length ≤ 1000) (q1 : Qs W v b v1 p1 g1 l1) (q2 : Qs W v b v2 p2 g2 l2) => next_dn h hn i (by omega) (ask_joi v b v1 p1 g1 l1 k1) (ask_joi v b v2 p2 g2 l2 k2) q1 q2)
  have HU := hr (fun (W : World) (h : Vw W v b ao n cap X) (g1 p1 v1 g2 p2 v2 : Nat) (l1 l2 : List Int) (k1 : l1.length ≤ 1000) (k2 : l2.length ≤ 1000) (q1 : Qs W v b v1 p1 g1 l1) (q2 : Qs W v b v2 p2 g2 l2) => next_up h hn i hi (ask_joi v b v1 p1 g1 l1 k1) (ask_joi v b v2 p2 g2 l2 k2) q1 q2)
  have HB : Hid (joB X i = (asF (fun x => decide (jnP x ∈ [4])) (fun x => decide (jnP x ∈ [2])) (X.take i).reverse && asF (fun x => decide (jnP x ∈ [4])) (fun x => decide (jnP x ∈ [2, 3])) (X.drop (i + 1)))) := rfl
  have H0 : Hid (Vw w v b ao n cap X ∧ Ok w.heap.size w w) := ⟨hV, Ok.start w⟩
  clear hV hn hi
  go_enter Try.func72, Try.ntmps72
  go_wp2_with fail
  refine (HJ.out w [4] 1 _ H0.out.1.vb rfl rfl).mono ?_
  rintro e w1 ⟨p1, v1, rfl, hq, hb⟩
  have H1 := hr (⟨H0.out.1.step hb, H0.out.2.step hb, hq⟩ : Vw w1 v b ao n cap X ∧ Ok w.heap.size w w1 ∧ Qs w1 v b v1 p1 w.heap.size [4])
  clear hq hb H0
  go_wp2_with fail
  refine (HJ.out w1 [2] 1 _ H1.out.1.vb rfl rfl).mono ?_
  rintro e w2 ⟨p2, v2, rfl, hq, hb⟩
  have H2 := hr (⟨H1.out.1.step hb, H1.out.2.1.step hb, H1.out.2.2.step hb, hq⟩ : Vw w2 v b ao n cap X ∧ Ok w.heap.size w w2 ∧ Qs w2 v b v1 p1 w.heap.size [4] ∧ Qs w2 v b v2 p2 w1.heap.size [2])
  clear hq hb H1
  go_wp2_with fail
  refine (HD.out w2 H2.out.1 _ _ _ _ _ _ [4] [2] (by simp) (by simp) H2.out.2.2.1 H2.out.2.2.2).mono ?_
  rintro e w3 ⟨rfl, hb⟩
  have H3 := hr (⟨H2.out.1.step hb, H2.out.2.1.step hb, H2.out.2.2.1.step hb⟩ : Vw w3 v b ao n cap X ∧ Ok w.heap.size w w3 ∧ Qs w3 v b v1 p1 w.heap.size [4])
  clear hb H2
  generalize asF (fun x => decide (jnP x ∈ [4])) (fun x => decide (jnP x ∈ [2])) (X.take i).reverse = q1 at *
  cases q1
  · have HE : Hid (joB X i = false) := by show _ = _; rw [HB.out]; rfl
    go_wp2_with fail
    go_ret
    exact ⟨ret_bool HE.out.symm, H3.out.2.1.1⟩
  · rw [Bool.true_and] at HB
    go_wp2_with fail
    refine (HJ.out w3 [2, 3] 2 _ H3.out.1.vb rfl rfl).mono ?_
    rintro e w4 ⟨p2, v2, rfl, hq, hb⟩
    have H4 := hr (⟨H3.out.1.step hb, H3.out.2.1.step hb, H3.out.2.2.step hb, hq⟩ : Vw w4 v b ao n cap X ∧ Ok w.heap.size w w4 ∧ Qs w4 v b v1 p1 w.heap.size [4] ∧ Qs w4 v b v2 p2 w3.heap.size [2, 3])
    clear hq hb H3
    go_wp2_with fail
    refine (HU.out w4 H4.out.1 _ _ _ _ _ _ [4] [2, 3] (by simp) (by simp) H4.out.2.2.1 H4.out.2.2.2).mono ?_
    rintro e w5 ⟨rfl, hb⟩
    have H5 := hr (H4.out.2.1.step hb)
    clear hb H4 HU HD
    generalize asF (fun x => decide (jnP x ∈ [4])) (fun x => decide (jnP x ∈ [2, 3])) (X.drop (i + 1)) = q2 at *
    go_wp2_with fail
    go_ret
    exact ⟨ret_bool HB.out.symm, H5.out.1⟩
end Ru
end Go.Proofs.Ytbamhbfncddieaa
