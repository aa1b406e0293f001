import Derived.Test.YtbamhbfncddieaaPr6
namespace Go.Proofs.Ytbamhbfncddieaa.Pr
open Go.RowKit Go.Lib

/-- All rows: the singles, then the pairs. -/
def allP : List R3 := singT ++ pairT
def distB : List R3 → Bool
  | [] => true
  | x :: l => l.all (fun y => !(y.1 == x.1)) && distB l
set_option maxRecDepth 1000000 in
theorem all_dist : distB allP = true := by kernel_rfl
set_option maxRecDepth 1000000 in
theorem all_lenP : allP.length = 395 := by kernel_rfl
def okR (x : R3) : Bool := decide (0 ≤ x.1) && decide (x.1 ≤ 70000) && decide (0 ≤ x.2.1) && decide (x.2.1 ≤ 70000) && decide (0 ≤ x.2.2) && decide (x.2.2 ≤ 70000)
set_option maxRecDepth 1000000 in
theorem all_okR : allP.all okR = true := by kernel_rfl
set_option maxRecDepth 1000000 in
theorem pair_two : pairT.all (fun x => !(x.2.2 == 0)) = true := by kernel_rfl
theorem ok_bd {x : R3} (h : okR x = true) : I32 x.1 ∧ I32 x.2.1 ∧ I32 x.2.2 := by
  simp only [okR, Bool.and_eq_true, decide_eq_true_eq] at h
  unfold I32
  omega
theorem all_bd : ∀ x ∈ allP, I32 x.1 ∧ I32 x.2.1 ∧ I32 x.2.2 := fun x hx => ok_bd (List.all_eq_true.1 all_okR x hx)
theorem sing_bd : ∀ x ∈ singT, I32 x.1 ∧ I32 x.2.1 ∧ I32 x.2.2 := fun x hx => all_bd x (List.mem_append_left _ hx)
theorem pair_bd : ∀ x ∈ pairT, I32 x.1 ∧ I32 x.2.1 ∧ I32 x.2.2 := fun x hx => all_bd x (List.mem_append_right _ hx)
theorem sing_z : ∀ x ∈ singT, x.2.2 = 0 := fun x hx => eq_of_beq (List.all_eq_true.1 sing_zero x hx)
theorem pair_nz : ∀ x ∈ pairT, x.2.2 ≠ 0 := fun x hx => by simpa using List.all_eq_true.1 pair_two x hx
theorem sing_len : singT.length = 10 := by decide
theorem pair_le : pairT.length ≤ 400 := by have h := Nat.le_of_ble_eq_true pair_len; exact h

theorem pair_pos : 0 < pairT.length := by have h := all_lenP; unfold allP at h; rw [List.length_append, sing_len] at h; omega

theorem dn_none (r : Int) (L : List R3) (h : ∀ x ∈ L, x.1 ≠ r) : dnF L r = none := by
  have : (∀ x ∈ L, x.1 ≠ r) → dnF L r = none := by
    refine snoc_ind (P := fun L => (∀ x ∈ L, x.1 ≠ r) → dnF L r = none) (fun _ => rfl) (fun L x ih hh => ?_) L
    rw [dn_snoc]
    show (if r = x.1 then some (valP x) else dnF L r) = none
    rw [if_neg (fun e => hh x (by simp) e.symm)]
    exact ih (fun y hy => hh y (by simp [hy]))
  exact this h
theorem dist_at : ∀ (l : List R3) (k : Nat) (x : R3), distB l = true → l[k]? = some x → ∀ y ∈ l.take k, y.1 ≠ x.1
  | [], _, _, _, h, _, _ => by simp at h
  | z :: l, 0, x, _, _, y, hy => by simp at hy
  | z :: l, k + 1, x, hd, h, y, hy => by
    simp only [distB, Bool.and_eq_true] at hd
    simp only [List.getElem?_cons_succ] at h
    simp only [List.take_succ_cons, List.mem_cons] at hy
    rcases hy with rfl | hy
    · have := List.all_eq_true.1 hd.1 x (List.mem_of_getElem? h)
      intro e
      simp [e] at this
    · exact dist_at l k x hd.2 h y hy
theorem new_sing {k : Nat} (hk : k < singT.length) : dnF (singT.take k) singT[k].1 = none := by
  refine dn_none _ _ (fun y hy => ?_)
  refine dist_at allP k singT[k] all_dist ?_ y ?_
  · unfold allP; rw [List.getElem?_append_left hk, List.getElem?_eq_getElem hk]
  · unfold allP; rw [List.take_append_of_le_length (by omega)]; exact hy
theorem new_pair {k : Nat} (hk : k < pairT.length) : dnF (singT ++ pairT.take k) pairT[k].1 = none := by
  refine dn_none _ _ (fun y hy => ?_)
  refine dist_at allP (singT.length + k) pairT[k] all_dist ?_ y ?_
  · unfold allP; rw [List.getElem?_append_right (by omega), show singT.length + k - singT.length = k by omega, List.getElem?_eq_getElem hk]
  · unfold allP; rw [List.take_length_add_append]; exact hy

/-- Rows of three as they are read. -/
def R3In (w : World) (g : Nat) (T : List R3) : Prop := ∀ k (h : k < T.length), w.cell? ⟨g, k * 3, none⟩ = some (.int .i32 T[k].1) ∧ w.cell? ⟨g, k * 3 + 1, none⟩ = some (.int .i32 T[k].2.1) ∧ w.cell? ⟨g, k * 3 + 2, none⟩ = some (.int .i32 T[k].2.2)
theorem c3_at : ∀ (l : List R3) (j i : Nat) (h : j < l.length), i < 3 → (l.flatMap c3)[j * 3 + i]? = (c3 l[j])[i]?
  | [], _, _, h, _ => by simp at h
  | x :: l, 0, i, _, hi => by
    simp only [List.flatMap_cons, Nat.zero_mul, Nat.zero_add, List.getElem_cons_zero]
    rw [List.getElem?_append_left (by simp [c3]; omega)]
  | x :: l, j + 1, i, h, hi => by
    have := c3_at l j i (by simpa using h) hi
    rw [List.flatMap_cons, List.getElem?_append_right (by simp [c3]; omega)]
    rw [show (j + 1) * 3 + i - (c3 x).length = j * 3 + i by simp [c3]; omega, this]
    rfl
theorem r3_of_own {w : World} {B : Nat} {v : Value} {T : List R3} (h : w.ownsRow B 70 3 v T.length (T.flatMap c3)) (h0 : 0 < T.length) : ∃ g cap, v = .slice (some ⟨g, 0, none⟩) T.length cap ∧ B ≤ g ∧ g < w.heap.size ∧ R3In w g T := by
  rcases h.2 with ⟨_, h2⟩ | ⟨g, cap, cur, rfl, h2, h3, h4, h5, h6, h7⟩
  · omega
  · refine ⟨g, cap, rfl, h2, (Array.getElem?_eq_some_iff.1 h3).1, fun k hk => ?_⟩
    have c := fun i (hi : i < 3) => (h.cellAt (k * 3 + i) (by omega)).trans (c3_at T k i hk hi)
    exact ⟨c 0 (by omega), c 1 (by omega), c 2 (by omega)⟩

theorem calls_str {P : Program} {f : FuncId} {s s' : ByteArray} {n : Int} {w : World} {Q : Ending → World → Prop} (e : s = s') (h : Calls P f #[.string s', .int .i64 n] w Q) : Calls P f #[.string s, .int .i64 n] w Q := by rw [e]; exact h

theorem pw_start (w : World) : PW ((((w.alloc (.map #[] 0)).alloc (.map #[] 0)).alloc (.map #[] 0)).alloc (.cells #[.map (some w.heap.size), .map (some (w.heap.size + 1)), .map (some (w.heap.size + 1 + 1))] 67)) (w.heap.size + 1 + 1 + 1) w.heap.size (w.heap.size + 1) (w.heap.size + 1 + 1) [] 0 := by
  refine ⟨?_, ⟨0, Nat.le_refl _, .map [], ?_, MapIs.nil _ _, rfl⟩, ⟨0, Nat.le_refl _, .map [], ?_, MapIs.nil _ _⟩, ⟨0, Nat.le_refl _, .map [], ?_, MapIs.nil _ _⟩, by omega, by omega, by omega, by omega⟩
  · have := heap_alloc_new (((w.alloc (.map #[] 0)).alloc (.map #[] 0)).alloc (.map #[] 0)) (.cells #[.map (some w.heap.size), .map (some (w.heap.size + 1)), .map (some (w.heap.size + 1 + 1))] 67)
    simp only [World.size_alloc] at this
    exact this
  · exact (((World.ownsMap_made w Try.prog _ _).alloc _).alloc _).alloc _
  · have := World.ownsMap_made (w.alloc (.map #[] 0)) Try.prog 109 (plainElem (H := Unit) Try.prog 21)
    rw [World.size_alloc] at this
    exact (this.alloc _).alloc _
  · have := World.ownsMap_made ((w.alloc (.map #[] 0)).alloc (.map #[] 0)) Try.prog 21 (plainElem (H := Unit) Try.prog 3)
    simp only [World.size_alloc] at this
    exact this.alloc _

/-- Behind a single that is put. -/
theorem PW.single {w : World} {p d u s sz : Nat} {L : List R3} (h : PW w p d u s L sz) (hl : L.length < 4000) {r a : Int} (hr : I32 r) (hnew : dnF L r = none) :
    ∃ w', (Instr.mapUpdate 63 (.map (some d)) (.int .i32 r) (.agg #[.int .i32 a, .int .i32 0, .int .i64 1])).run Try.prog w = .ok () w' ∧ PW w' p d u s (L ++ [(r, a, 0)]) (sz + 1) ∧ Kp d u s w w' := by
  obtain ⟨n1, l1, h1⟩ := h.dn
  obtain ⟨n2, l2, h2⟩ := h.up
  obtain ⟨n3, l3, h3⟩ := h.sc
  obtain ⟨⟨e1, e2, e3⟩, e4, e5, e6⟩ := h.ne
  have hp := (Array.getElem?_eq_some_iff.1 h.blk).1
  have hval : valP (r, a, 0) = (a, 0, 1) := rfl
  obtain ⟨w1, hrun1, hd1, hg1⟩ := h1.upd (by omega) hr (a, 0, 1)
  rw [hnew] at hd1
  simp only [Option.isSome_none, Bool.false_eq_true, if_false] at hd1
  have hdn : (fun y => if y = r then some (a, 0, 1) else dnF L y) = dnF (L ++ [(r, a, 0)]) := by rw [dn_snoc, hval]
  rw [hdn] at hd1
  have hsk : skipB (r, a, 0) = true := rfl
  refine ⟨w1, hrun1, ⟨(grown_other hg1 hp e4).trans h.blk, ⟨n1 + 1, by simp; omega, hd1⟩, ⟨n2, by simp; omega, ?_⟩, ⟨n3, by simp; omega, ?_⟩, h.ne⟩, Kp.grown hg1 (.inl rfl)⟩
  · rw [up_snoc]; simp only [hsk, if_true]; exact h2.block (grown_other hg1 h2.lt (Ne.symm e1))
  · rw [sc_snoc]; simp only [hsk, if_true]; exact h3.block (grown_other hg1 h3.lt (Ne.symm e2))

theorem PW.lts {w : World} {p d u s sz : Nat} {L : List R3} (h : PW w p d u s L sz) : d < w.heap.size ∧ u < w.heap.size ∧ s < w.heap.size ∧ p < w.heap.size := by
  obtain ⟨_, _, h1⟩ := h.dn
  obtain ⟨_, _, h2⟩ := h.up
  obtain ⟨_, _, h3⟩ := h.sc
  exact ⟨h1.lt, h2.lt, h3.lt, (Array.getElem?_eq_some_iff.1 h.blk).1⟩

theorem take_snocR (T : List R3) (k : Nat) (h : k < T.length) : T.take (k + 1) = T.take k ++ [T[k]] := List.take_succ_eq_append_getElem h

set_option maxHeartbeats 4000000 in
set_option maxRecDepth 1000000 in
theorem new_any (w : World) : Calls Try.prog 12 #[] w fun e w' => ∃ p d u s, e = .returned (.pointer (some ⟨p, 0, none⟩)) ∧ PW w' p d u s allP 395 ∧ Below w.heap.size w w' := by
  have HR2 := hid (fun w => rows2_any singS singT w dec_sing (by rw [sing_len]; decide) sing_z)
  have HR3 := hid (fun w => rows3_any pairsS pairT w dec_pairs (by have := pair_le; omega))
  have hmm : ∀ (t : TypeId) (w : World), (Instr.makeMap t none).run Try.prog w = .ok (.map (some w.heap.size)) (w.alloc (.map #[] 0)) := fun _ _ => rfl
  go_enter Try.func12, Try.ntmps12
  go_wp2_with (go_at_call 32; refine calls_str (s' := singS) (by kernel_rfl) ?_; refine (HR2.out _).mono ?_; rintro e w1 ⟨v1, rfl, ho1, hb1⟩; have HO1 := hid ho1; have HB1 := hid hb1; clear ho1 hb1; obtain ⟨g1, cap1, rfl, hg1, hgl1, hR1⟩ := r3_of_own HO1.out (by rw [sing_len]; decide))
  have HP1 := hid ((pw_start w).step HB1.out)
  have HRR : Hid (g1 < w1.heap.size ∧ R3In w1 g1 singT ∧ g1 ≠ w.heap.size ∧ g1 ≠ w.heap.size + 1 ∧ g1 ≠ w.heap.size + 1 + 1) := ⟨hgl1, hR1, by simp at hg1; omega, by simp at hg1; omega, by simp at hg1; omega⟩
  have HBW : Hid (Below w.heap.size w w1) := by
    have hb0 : Below w.heap.size w ((((w.alloc (.map #[] 0)).alloc (.map #[] 0)).alloc (.map #[] 0)).alloc (.cells #[.map (some w.heap.size), .map (some (w.heap.size + 1)), .map (some (w.heap.size + 1 + 1))] 67)) := ((((Below.refl _ _).alloc (by simp) _).alloc (by simp) _).alloc (by simp; omega) _).alloc (by simp; omega) _
    exact hb0.trans (HB1.out.mono hb0.size)
  clear hgl1 hR1 hg1 HO1 HB1 HR2
  have HNE : Hid (w.heap.size ≤ w.heap.size + 1 ∧ w.heap.size ≤ w.heap.size + 1 + 1) := ⟨by omega, by omega⟩
  generalize w.heap.size + 1 + 1 + 1 = p at *
  generalize w.heap.size + 1 + 1 = s at *
  generalize w.heap.size + 1 = u at *
  have HNS := hid (fun (k : Nat) (hk : k < singT.length) => new_sing hk)
  have HSZ := hid (And.intro sing_z sing_bd)
  have hsl : singT.length ≤ 10 := by rw [sing_len]; decide
  have HSLen := hid sing_len
  generalize hT : singT = T at *
  have HT := hid hT
  clear hT
  go_loopg [13] T.length (fun gg i wr => ∃ k : Nat, k ≤ T.length ∧ gg = T.length - k ∧ i = .int .i64 k ∧ Hid (PW wr p w.heap.size u s (T.take k) k ∧ Kp w.heap.size u s w1 wr))
  case atStart => exact ⟨0, Nat.zero_le _, by omega, rfl, HP1.out, Kp.refl _ _ _ _⟩
  case round =>
    clear HP1
    obtain ⟨k, hk, hg, rfl, H⟩ := hrel
    have HG := hid hg
    clear hg
    by_cases hlt : k < T.length
    · obtain ⟨e0, e1, e2⟩ := HRR.out.2.1 k hlt
      have hq := H.out.2.block g1 HRR.out.1 HRR.out.2.2.1 HRR.out.2.2.2.1 HRR.out.2.2.2.2
      have d0 := (World.cell?_of_block (a := ⟨g1, k * 3, none⟩) hq).trans e0
      have d1 := (World.cell?_of_block (a := ⟨g1, k * 3 + 1, none⟩) hq).trans e1
      have d2 := (World.cell?_of_block (a := ⟨g1, k * 3 + 2, none⟩) hq).trans e2
      have b1 : (0 : Int) ≤ k ∧ (k : Int) < (T.length : Int) := by omega
      have hz := HSZ.out.1 T[k] (List.getElem_mem hlt)
      have hbd := (HSZ.out.2 T[k] (List.getElem_mem hlt)).1
      have hnw := HNS.out k hlt
      have HTK := hid (take_snocR T k hlt)
      have hkl : (T.take k).length < 4000 := by rw [List.length_take]; omega
      clear e0 e1 e2 hq HNS
      generalize T[k] = x at *
      obtain ⟨x1, x2, x3⟩ := x
      simp only at d0 d1 d2 hz hbd hnw
      subst hz
      have HPa := hid (H.out.1.step ((Below.refl _ _).alloc (Nat.le_refl _) (.cells #[.int .i32 x1, .int .i32 x2, .int .i32 0] 70)))
      have HKa := hid (H.out.2.trans (Kp.of_below ((Below.refl wr.heap.size wr).alloc (Nat.le_refl _) (.cells #[.int .i32 x1, .int .i32 x2, .int .i32 0] 70))))
      have HLa := hid (heap_alloc_new wr (.cells #[.int .i32 x1, .int .i32 x2, .int .i32 0] 70))
      have HLT := hid H.out.1.lts
      have HLW : Hid (wr.heap.size < (wr.alloc (.cells #[.int .i32 x1, .int .i32 x2, .int .i32 0] 70)).heap.size) := by show _ < _; simp
      clear H
      go_wp2_with fail
      generalize wr.alloc (.cells #[.int .i32 x1, .int .i32 x2, .int .i32 0] 70) = W2 at *
      generalize wr.heap.size = lb at *
      have HPd := hid (HPa.out.step ((Below.refl W2.heap.size W2).drew))
      obtain ⟨w3, hrun3, hP3, hK3⟩ := HPd.out.single hkl (a := x2) hbd hnw
      obtain ⟨s0, s1, _, _⟩ := cells3 HLa.out
      obtain ⟨t0, _, _⟩ := HPa.out.cells
      have HP3 := hid hP3
      have HK3 := hid ((HKa.out.trans (Kp.of_below ((Below.refl W2.heap.size W2).drew))).trans hK3)
      obtain ⟨z0, z1, _, _⟩ := cells3 ((hK3.block lb HLW.out (by have := HLT.out; omega) (by have := HLT.out; omega) (by have := HLT.out; omega)).trans HLa.out)
      obtain ⟨y0, _, _⟩ := hP3.cells
      clear hP3 hK3 d0 d1 d2 HPd
      go_region_held3 (fun w' => w'.cell? ⟨p, 0, none⟩ = some (.map (some w.heap.size)) ∧ w'.cell? ⟨lb, 0, none⟩ = some (.int .i32 x1) ∧ w'.cell? ⟨lb, 1, none⟩ = some (.int .i32 x2))
        (first | exact ⟨t0, s0, s1⟩ | exact ⟨y0, z0, z1⟩)
        (fail)
      go_wp2_with fail
      go_roundg (T.length - (k + 1))
      case measure => rw [HG.out]; omega
      case rel => exact ⟨k + 1, by omega, rfl, by go_num, by rw [HTK.out]; exact HP3.out, HK3.out⟩
    · have e : k = T.length := by omega
      subst e
      have HP4 : Hid (PW wr p w.heap.size u s T T.length) := by have := H.out.1; rw [List.take_length] at this; exact this
      have HBq : Hid (Below w.heap.size w wr) := HBW.out.trans (H.out.2.below HBW.out.size (Nat.le_refl _) HNE.out.1 HNE.out.2)
      have HLT := hid H.out.1.lts
      clear H HRR HNS HSZ HBW
      go_wp2_with (go_at_call 32; refine calls_str (s' := pairsS) (by kernel_rfl) ?_; refine (HR3.out _).mono ?_; rintro e w4 ⟨v4, rfl, ho4, hb4⟩; have HO4 := hid ho4; have HB4 := hid hb4; clear ho4 hb4; obtain ⟨g4, cap4, rfl, hg4, hgl4, hR4⟩ := r3_of_own HO4.out pair_pos)
      have HP5 := hid (HP4.out.step HB4.out)
      have HRR : Hid (g4 < w4.heap.size ∧ R3In w4 g4 pairT ∧ g4 ≠ w.heap.size ∧ g4 ≠ u ∧ g4 ≠ s) := ⟨hgl4, hR4, by have := HLT.out; omega, by have := HLT.out; omega, by have := HLT.out; omega⟩
      have HBr := hid (HBq.out.trans (HB4.out.mono HBq.out.size))
      have HNP : Hid (∀ (k : Nat) (hk : k < pairT.length), dnF (T ++ pairT.take k) pairT[k].1 = none) := by have h := fun (k : Nat) (hk : k < pairT.length) => new_pair hk; rw [HT.out] at h; exact h
      have HAll : Hid (T ++ pairT = allP) := by show _ = _; rw [← HT.out]; rfl
      have HPZ := hid (And.intro pair_nz pair_bd)
      have HL395 : Hid (T.length + pairT.length = 395) := by have h := all_lenP; rw [← HAll.out, List.length_append] at h; exact h
      have hpl := pair_le
      clear HP4 HB4 HO4 hg4 hgl4 hR4 HBq HR3
      generalize pairT = T2 at *
      go_loopg [29] T2.length (fun gg i wq => ∃ k : Nat, k ≤ T2.length ∧ gg = T2.length - k ∧ i = .int .i64 k ∧ Hid (PW wq p w.heap.size u s (T ++ T2.take k) (T.length + k) ∧ Kp w.heap.size u s w4 wq))
      case atStart => exact ⟨0, Nat.zero_le _, by omega, rfl, by simpa using HP5.out, Kp.refl _ _ _ _⟩
      case round =>
        clear HP5 HG
        obtain ⟨k, hk, hg, rfl, H⟩ := hrel
        have HG := hid hg
        clear hg
        by_cases hlt2 : k < T2.length
        · obtain ⟨e0, e1, e2⟩ := HRR.out.2.1 k hlt2
          have hq := H.out.2.block g4 HRR.out.1 HRR.out.2.2.1 HRR.out.2.2.2.1 HRR.out.2.2.2.2
          have d0 := (World.cell?_of_block (a := ⟨g4, k * 3, none⟩) hq).trans e0
          have d1 := (World.cell?_of_block (a := ⟨g4, k * 3 + 1, none⟩) hq).trans e1
          have d2 := (World.cell?_of_block (a := ⟨g4, k * 3 + 2, none⟩) hq).trans e2
          have b1 : (0 : Int) ≤ k ∧ (k : Int) < (T2.length : Int) := by omega
          have hz := HPZ.out.1 T2[k] (List.getElem_mem hlt2)
          have hbd := HPZ.out.2 T2[k] (List.getElem_mem hlt2)
          have hnw := HNP.out k hlt2
          have HTK := hid (take_snocR T2 k hlt2)
          have hkl : (T ++ T2.take k).length < 4000 := by rw [List.length_append, List.length_take]; omega
          clear e0 e1 e2 hq HNP HRR
          generalize T2[k] = x at *
          obtain ⟨x1, x2, x3⟩ := x
          simp only at d0 d1 d2 hz hbd hnw
          have HPa := hid (H.out.1.step ((Below.refl _ _).alloc (Nat.le_refl _) (.cells #[.int .i32 x1, .int .i32 x2, .int .i32 x3] 70)))
          have HKa := hid (H.out.2.trans (Kp.of_below ((Below.refl wr.heap.size wr).alloc (Nat.le_refl _) (.cells #[.int .i32 x1, .int .i32 x2, .int .i32 x3] 70))))
          have HU := hid (put_any HPa.out hkl hbd.1 hbd.2.1 hbd.2.2 hz hnw)
          clear H HPa hz hbd hnw
          go_wp2_with (go_at_call 33; refine HU.out.mono ?_; rintro e w5 ⟨rfl, hP5, hK5⟩; have HP6 := hid hP5; have HK6 := hid (HKa.out.trans hK5); clear hP5 hK5)
          go_roundg (T2.length - (k + 1))
          case measure => rw [HG.out]; omega
          case rel => exact ⟨k + 1, by omega, rfl, by go_num, by rw [HTK.out, ← List.append_assoc]; exact HP6.out, HK6.out⟩
        · have e : k = T2.length := by omega
          subst e
          have HPf : Hid (PW wr p w.heap.size u s allP 395) := by have h := H.out.1; rw [List.take_length, HAll.out, HL395.out] at h; exact h
          have HBf : Hid (Below w.heap.size w wr) := HBr.out.trans (H.out.2.below HBr.out.size (Nat.le_refl _) HNE.out.1 HNE.out.2)
          clear H HRR HNP
          go_wp2_with fail
          go_ret
          exact ⟨_, _, _, _, rfl, HPf.out, HBf.out⟩
end Go.Proofs.Ytbamhbfncddieaa.Pr
