import Derived.Test.YtbamhbfncddieaaPr5
namespace Go.Proofs.Ytbamhbfncddieaa.Pr
open Go.RowKit Go.Lib

theorem grown_other {w w' : World} {r k : Nat} (hg : w.grownBy w' (some r)) (hk : k < w.heap.size) (hne : k ≠ r) : w'.heap[k]? = w.heap[k]? := hg.block k hk (fun e => hne (Option.some.inj e))

set_option maxHeartbeats 2000000 in
theorem put_any {w : World} {p d u s sz : Nat} {L : List R3} (h : PW w p d u s L sz) (hl : L.length < 4000) {r a b : Int} (hr : I32 r) (ha : I32 a) (hb : I32 b) (hb0 : b ≠ 0) (hnew : dnF L r = none) :
    Calls Try.prog 33 #[.pointer (some ⟨p, 0, none⟩), .int .i32 r, .int .i32 a, .int .i32 b] w fun e w' => e = .returned (.tuple #[]) ∧ PW w' p d u s (L ++ [(r, a, b)]) (sz + 1) ∧ Kp d u s w w' := by
  obtain ⟨n1, l1, h1⟩ := h.dn
  obtain ⟨n2, l2, h2⟩ := h.up
  obtain ⟨n3, l3, h3⟩ := h.sc
  obtain ⟨⟨e1, e2, e3⟩, e4, e5, e6⟩ := h.ne
  have hp := (Array.getElem?_eq_some_iff.1 h.blk).1
  have hval : valP (r, a, b) = (a, b, 2) := by unfold valP; rw [if_neg hb0]
  obtain ⟨w1, hrun1, hd1, hg1⟩ := h1.upd (by omega) hr (a, b, 2)
  rw [hnew] at hd1
  simp only [Option.isSome_none, Bool.false_eq_true, if_false] at hd1
  have hdn : (fun y => if y = r then some (a, b, 2) else dnF L y) = dnF (L ++ [(r, a, b)]) := by rw [dn_snoc, hval]
  have hblk1 := (grown_other hg1 hp e4).trans h.blk
  have hu1 := h2.block (grown_other hg1 h2.lt (Ne.symm e1))
  have hs1 := h3.block (grown_other hg1 h3.lt (Ne.symm e2))
  have hk1 : Kp d u s w w1 := Kp.grown hg1 (.inl rfl)
  have c0 := h.cells.1
  obtain ⟨q0, q1, q2, _⟩ := cells3 hblk1
  have HE := hid (ex_any' q0 hd1 hr)
  have hex : exF (if r = r then some (a, b, 2) else dnF L r) r = exB r := by rw [if_pos rfl]; rfl
  rw [hex] at HE
  clear hex
  rw [hdn] at hd1
  have hd1' : ∃ n, n ≤ (L ++ [(r, a, b)]).length ∧ DownW w1 d n (dnF (L ++ [(r, a, b)])) (sz + 1) := ⟨n1 + 1, by simp; omega, hd1⟩
  have hsk : skipB (r, a, b) = exB r := by
    unfold skipB
    have : (b == 0) = false := by simpa using hb0
    show (b == 0 || exB r) = exB r
    rw [this]; rfl
  unfold pv at hrun1
  simp only at hrun1
  cases hx : exB r with
  | true =>
    rw [hx] at hsk HE
    have HW : Hid (PW w1 p d u s (L ++ [(r, a, b)]) (sz + 1)) := by
      refine ⟨hblk1, hd1', ⟨n2, by simp; omega, ?_⟩, ⟨n3, by simp; omega, ?_⟩, h.ne⟩
      · rw [up_snoc]; simp only [hsk, if_true]; exact hu1
      · rw [sc_snoc]; simp only [hsk, if_true]; exact hs1
    have HK := hid hk1
    clear h h1 h2 h3 hd1 hd1' hg1 hblk1 hu1 hs1 hk1 hsk hx hdn hnew
    go_enter Try.func33, Try.ntmps33
    go_wp2_with (go_at_call 61; refine HE.out.mono ?_; rintro e w' ⟨rfl, rfl⟩)
    (try simp only [Exit.inBlock, Exit.then])
    refine bodyPost_ret (results_none rfl _ _ _) rfl ?_
    exact ⟨rfl, HW.out, HK.out⟩
  | false =>
    rw [hx] at hsk HE
    obtain ⟨w2, hrun2, hu2, hg2⟩ := hu1.upd (by omega) ha hb hr
    have hlt1 : ∀ k, k < w.heap.size → k < w1.heap.size := fun k hk => Nat.lt_of_lt_of_le hk hg1.size
    have hs2 := hs1.block (grown_other hg2 hs1.lt (Ne.symm e3))
    have hd2 := hd1.block (grown_other hg2 hd1.lt e1)
    have hblk2 := (grown_other hg2 (hlt1 p hp) e5).trans hblk1
    have hlk := hs2.look hb
    have hcb := sc_bd b L
    obtain ⟨w3, hrun3, hs3, hg3⟩ := hs2.upd (by omega) hb (c := (scF L b).getD 0 + 1) ⟨by omega, by omega⟩
    have hlt2 : ∀ k, k < w1.heap.size → k < w2.heap.size := fun k hk => Nat.lt_of_lt_of_le hk hg2.size
    have hd3 := hd2.block (grown_other hg3 hd2.lt e2)
    have hu3 := hu2.block (grown_other hg3 hu2.lt e3)
    have hblk3 := (grown_other hg3 (hlt2 p (hlt1 p hp)) e6).trans hblk2
    obtain ⟨t0, t1, t2, _⟩ := cells3 hblk2
    have HW : Hid (PW w3 p d u s (L ++ [(r, a, b)]) (sz + 1)) := by
      refine ⟨hblk3, ⟨n1 + 1, by simp; omega, hd3⟩, ⟨n2 + 1, by simp; omega, ?_⟩, ⟨n3 + 1, by simp; omega, ?_⟩, h.ne⟩
      · rw [up_snoc]; simp only [hsk, Bool.false_eq_true, if_false]; exact hu3
      · rw [sc_snoc]; simp only [hsk, Bool.false_eq_true, if_false]; exact hs3
    have HK := hid ((hk1.trans (Kp.grown hg2 (.inr (.inl rfl)))).trans (Kp.grown (d := d) (u := u) hg3 (.inr (.inr rfl))))
    have hc1 := hcb.1
    have hc2 : (scF L b).getD 0 ≤ 4000 := by have := hcb.2; omega
    generalize (scF L b).getD 0 = c at *
    clear h h1 h2 h3 hd1 hd1' hg1 hblk1 hu1 hs1 hk1 hsk hx hdn hnew hu2 hg2 hlt1 hs2 hd2 hblk2 hs3 hg3 hlt2 hd3 hu3 hblk3 hcb
    go_enter Try.func33, Try.ntmps33
    go_wp2_with (go_at_call 61; refine HE.out.mono ?_; rintro e w' ⟨rfl, rfl⟩)
    go_end0
    exact ⟨rfl, HW.out, HK.out⟩
end Go.Proofs.Ytbamhbfncddieaa.Pr
