import Derived.Test.YtclcmkklonnalaaGreatRngx13
namespace Go.Proofs.YtclcmkklonnalaaGreat
namespace Od
open Go.RowKit

/-- No class is less than the one ahead. -/
def NoD (c : Int → Int) (X : List Int) : Prop := ∀ i (h : i + 1 < X.length), ¬ c X[i + 1] < c X[i]
theorem NoD.ord {c : Int → Int} : ∀ {X : List Int}, NoD c X → Ord c X
  | [], _ => trivial
  | [_], _ => trivial
  | x :: y :: l, h => ⟨by have := h 0 (by simp); simp at this; omega, NoD.ord (fun i hi => by have := h (i + 1) (by simp at hi ⊢; omega); simpa using this)⟩
theorem ord_at {c : Int → Int} : ∀ {X : List Int}, Ord c X → ∀ i (h : i + 1 < X.length), ¬ (0 < c X[i + 1] ∧ c X[i + 1] < c X[i])
  | [], _, i, h => by simp at h
  | [_], _, i, h => by simp at h
  | x :: y :: l, ho, 0, h => ho.1
  | x :: y :: l, ho, i + 1, h => by
    have := ord_at ho.2 i (by simp at h ⊢; omega)
    simpa using this

/-- The function that holds two classes against each other, where nothing is turned. -/
structure CmpB (c : Int → Int) (G : World → Prop) (cb : Array Value) : Prop where
  call : ∀ W x y, G W → Calls Tryz.prog 89 (#[.int .i32 x, .int .i32 y] ++ cb) W fun e w' => e = .returned (.int .i64 (cmpI (c x) (c y))) ∧ Below W.heap.size W w'
  keep : ∀ W W', G W → Below W.heap.size W W' → G W'
/-- What is told of order. -/
def SfR (c : Int → Int) (X : List Int) (e : Ending) : Prop := ∃ r, e = .returned (.bool r) ∧ (r = true ↔ NoD c X)

set_option maxRecDepth 100000 in
set_option maxHeartbeats 2000000 in
theorem isf_any {G : World → Prop} {cb : Array Value} {c : Int → Int} (w : World) (ao : Option Addr) (n cap : Nat) (hC : CmpB c G cb) (X : List Int) (hX : X.length = n) (hS : SlP .i32 w ao cap X) (hG : G w) (hn : n ≤ 1000000) :
    Calls Tryz.prog 46 #[.slice ao n cap, .func (.func 89) #[] cb] w fun e w' => SfR c X e ∧ Below w.heap.size w w' := by
  have HC := hid hC
  have HX := hid hX
  have HS := hid hS
  have H0 : Hid (G w ∧ Ok w.heap.size w w) := ⟨hG, Ok.start w⟩
  clear hC hX hS hG
  by_cases h0 : n = 0
  · subst h0
    go_enter Tryz.func46, Tryz.ntmps46
    go_wp2_with fail
    refine wp_loop_rounds 1 ?_
    rw [rounds_succ]
    go_wp2_with fail
    go_ret
    exact ⟨⟨true, rfl, fun _ i h => by have := HX.out; omega, fun _ => rfl⟩, Below.refl _ _⟩
  · have e1 : IntKind.i64.wrap ((n : Int) - 1) = ((n - 1 : Nat) : Int) := by rw [IntKind.wrap_i64]; omega
    go_enter Tryz.func46, Tryz.ntmps46
    go_wp2_with fail
    go_loopg [5] n (fun g vi wr => ∃ k : Nat, vi = .int .i64 k ∧ k + 1 ≤ n ∧ k ≤ g ∧ Hid ((∀ i (h : i + 1 < X.length), k ≤ i → ¬ c X[i + 1] < c X[i]) ∧ G wr ∧ Ok w.heap.size w wr))
    case atStart => exact ⟨n - 1, by first | rfl | (congr 1; omega), by omega, by omega, fun i h1 h2 => by have := HX.out; omega, H0.out⟩
    case round =>
      obtain ⟨k, rfl, hk, hg, H⟩ := hrel
      clear e1 H0
      by_cases hk0 : k = 0
      · subst hk0
        go_wp2_with fail
        go_ret
        exact ⟨⟨true, rfl, fun _ i h => by have := H.out.1 i h (Nat.zero_le _); omega, fun _ => rfl⟩, H.out.2.2.1⟩
      · obtain ⟨kp, rfl⟩ : ∃ kp, k = kp + 1 := ⟨k - 1, by omega⟩
        have hlx : kp + 1 < X.length := by have := HX.out; omega
        obtain ⟨b, off, rfl, hb, c1⟩ := HS.out.at_ (kp + 1) hlx
        obtain ⟨b', off', e', _, c2⟩ := HS.out.at_ kp (by omega)
        simp at e'
        obtain ⟨rfl, rfl⟩ := e'
        have d1 := (H.out.2.2.1.cell (p := ⟨b, off + (kp + 1), none⟩) hb).trans c1
        have d2 := (H.out.2.2.1.cell (p := ⟨b, off + kp, none⟩) hb).trans c2
        have HCell : Hid (∀ A, Ok w.heap.size w A → A.cell? ⟨b, off + (kp + 1), none⟩ = some (.int .i32 X[kp + 1]) ∧ A.cell? ⟨b, off + kp, none⟩ = some (.int .i32 X[kp])) := fun A hA => ⟨(hA.1.cell (p := ⟨b, off + (kp + 1), none⟩) hb).trans c1, (hA.1.cell (p := ⟨b, off + kp, none⟩) hb).trans c2⟩
        have HD : Hid (G wr.drew ∧ Ok w.heap.size w wr.drew) := ⟨HC.out.keep _ _ H.out.2.1 ((Below.refl _ _).drew), H.out.2.2.step ((Below.refl _ _).drew)⟩
        have HP : Hid ((¬ c X[kp + 1] < c X[kp] → ∀ i (h : i + 1 < X.length), kp ≤ i → ¬ c X[i + 1] < c X[i]) ∧ (c X[kp + 1] < c X[kp] → ¬ NoD c X)) := by
          refine ⟨fun hc i hi hki => ?_, fun hc hN => hN kp hlx hc⟩
          rcases Nat.lt_or_ge kp i with h1 | h1
          · exact H.out.1 i hi h1
          · have : i = kp := by omega
            subst this; exact hc
        clear c1 c2
        have HV := hid (fun W (h : G W) => HC.out.call W X[kp + 1] X[kp] h)
        have hcm := cmpI_lt (c X[kp + 1]) (c X[kp])
        rw [← hcm] at HP
        clear hcm
        generalize cmpI (c X[kp + 1]) (c X[kp]) = v at *
        generalize X[kp + 1] = x at *
        generalize X[kp] = y at *
        have jz : (kp : Int) + 1 < (n : Int) := by omega
        have jz1 : (kp : Int) < (n : Int) := by omega
        have hwp : IntKind.i64.wrap (kp : Int) = (kp : Int) := by rw [IntKind.wrap_i64]; omega
        have p0 : (0 : Int) ≤ (kp : Int) + 1 := by omega
        have e0 : ((kp : Int) + 1).toNat = kp + 1 := by omega
        have hpos : (0 : Int) < (kp : Int) + 1 := by omega
        by_cases hv : v < 0
        · have HN := hid (HP.out.2 hv)
          go_wp2_with fail
          go_region_held3 (fun w' => w'.cell? ⟨b, off + (kp + 1), none⟩ = some (.int .i32 x) ∧ w'.cell? ⟨b, off + kp, none⟩ = some (.int .i32 y))
            (first | exact HCell.out _ HD.out.2 | exact ⟨d1, d2⟩)
            (first | (go_at_call 89; refine (HV.out _ HD.out.1).mono ?_; rintro e w' ⟨rfl, hb'⟩; replace HD := hid (And.intro (HC.out.keep _ _ HD.out.1 hb') (HD.out.2.step hb')); clear hb'))
          go_wp2_with fail
          go_ret
          exact ⟨⟨false, rfl, fun h => (by cases h), fun h => absurd h HN.out⟩, HD.out.2.1⟩
        · have HN := hid (HP.out.1 hv)
          have hv2 : decide (v < 0) = false := decide_eq_false hv
          go_wp2_with fail
          go_region_held3 (fun w' => w'.cell? ⟨b, off + (kp + 1), none⟩ = some (.int .i32 x) ∧ w'.cell? ⟨b, off + kp, none⟩ = some (.int .i32 y))
            (first | exact HCell.out _ HD.out.2 | exact ⟨d1, d2⟩)
            (first | (go_at_call 89; refine (HV.out _ HD.out.1).mono ?_; rintro e w' ⟨rfl, hb'⟩; replace HD := hid (And.intro (HC.out.keep _ _ HD.out.1 hb') (HD.out.2.step hb')); clear hb'))
          go_wp2_with fail
          go_roundg kp
          case measure => omega
          case rel => exact ⟨kp, by first | rfl | go_num | (congr 1; omega), by omega, Nat.le_refl _, HN.out, HD.out⟩

/-! ### Sorted -/

/-- What Sorted keeps. -/
structure SdI (w : World) (b : Nat) (zs : List Int) (ao : Option Addr) (cap o2 o3 o4 pl pb : Nat) (pre : List (Nat × Nat)) (W : World) : Prop where
  bel : Below w.heap.size w W
  b2 : Bx W o2 (.pointer (some ⟨b, 0, none⟩)) 38
  b3 : Bx W o3 (.slice ao zs.length cap) 22
  b4 : Bx W o4 (.bool false) 4
  bl : Bx W pl (.slice ao zs.length cap) 22
  bb : Bx W pb (.pointer (some ⟨b, 0, none⟩)) 38
  ord : Ord clsP (zs.take (endOf pre))
/-- And what it keeps where it stops. -/
def SdX (w : World) (zs : List Int) (o4 : Nat) (_ : List (Nat × Nat)) (W : World) : Prop := Below w.heap.size w W ∧ Bx W o4 (.bool false) 4 ∧ ¬ Ord clsP zs
theorem SdI.keep {w : World} {b : Nat} {zs : List Int} {ao : Option Addr} {cap o2 o3 o4 pl pb N : Nat} {pre : List (Nat × Nat)} {A B : World} (h : SdI w b zs ao cap o2 o3 o4 pl pb pre A) (hk : Kc N A B) (hN : w.heap.size ≤ N) : SdI w b zs ao cap o2 o3 o4 pl pb pre B :=
  ⟨hk.below h.bel hN (Nat.le_refl _), hk.bx h.b2, hk.bx h.b3, hk.bx h.b4, hk.bx h.bl, hk.bx h.bb, h.ord⟩
theorem SdX.keep {w : World} {zs : List Int} {o4 N : Nat} {pre : List (Nat × Nat)} {A B : World} (h : SdX w zs o4 pre A) (hk : Kc N A B) (hN : w.heap.size ≤ N) : SdX w zs o4 pre B := ⟨hk.below h.1 hN (Nat.le_refl _), hk.bx h.2.1, h.2.2⟩
theorem SdI.ne {w : World} {b : Nat} {zs : List Int} {ao : Option Addr} {cap o2 o3 o4 pl pb : Nat} {pre : List (Nat × Nat)} {A : World} (hB : Bk w b) (hS : SlP .i32 w ao cap zs) (h : SdI w b zs ao cap o2 o3 o4 pl pb pre A) : NeR b ao cap pl pb zs pre A :=
  ⟨hB.step h.bel, h.bl, h.bb, fun i hi _ => by
    obtain ⟨g, off, e, hg, hc⟩ := hS.at_ i hi
    exact ⟨g, off, e, (h.bel.cell (p := ⟨g, off + i, none⟩) hg).trans hc⟩⟩
theorem next_ord {zs : List Int} {pre : List (Nat × Nat)} {f t : Nat} (hx : NextR clsP zs pre (f, t)) (ho : Ord clsP (zs.take (endOf pre))) : (NoD clsP ((zs.take t).drop f) → Ord clsP (zs.take (endOf (pre ++ [(f, t)])))) ∧ (¬ NoD clsP ((zs.take t).drop f) → ¬ Ord clsP zs) := by
  obtain ⟨x1, x2, x3, x4, x5, x6⟩ := hx
  simp only at x1 x2 x3 x4 x5 x6
  refine ⟨fun hN => ?_, fun hN hO => hN (fun i hi => ?_)⟩
  · rw [endOf_snoc]
    show Ord clsP (zs.take t)
    have e1 : zs.take t = zs.take (endOf pre) ++ (zs.take f).drop (endOf pre) ++ (zs.take t).drop f := by
      have e2 : zs.take (endOf pre) ++ (zs.take f).drop (endOf pre) = zs.take f := by
        conv => rhs; rw [← List.take_append_drop (endOf pre) (zs.take f)]
        rw [List.take_take, Nat.min_eq_left x1]
      rw [e2]
      conv => lhs; rw [← List.take_append_drop f (zs.take t)]
      rw [List.take_take, Nat.min_eq_left (by omega)]
    rw [e1]
    refine ord_glue (fun x => (cls_bd x).1) ho (fun z hz => ?_) hN.ord ?_
    · obtain ⟨i, hi, a1, a2, rfl⟩ := mem_seg hz
      exact x4 i hi a1 a2
    · rcases x6 with h | h
      · right; rw [h]; rfl
      · left
        intro e
        have := congrArg List.length e
        rw [List.length_drop, List.length_take] at this
        simp at this; omega
  · have hl := hi
    rw [List.length_drop, List.length_take] at hl
    have := ord_at hO (f + i) (by omega)
    have hp := x5 (f + i + 1) (by omega) (by omega) (by omega)
    have h0 := (cls_bd (zs[f + i + 1]'(by omega))).1
    intro hlt
    rw [List.getElem_drop, List.getElem_drop, List.getElem_take, List.getElem_take] at hlt
    exact this ⟨by omega, hlt⟩
theorem all_ord {zs : List Int} {xs : List (Nat × Nat)} (hx : AllR clsP zs xs) (ho : Ord clsP (zs.take (endOf xs))) : Ord clsP zs := by
  have hu : Upto clsP zs (endOf xs) zs := ⟨.refl _, rfl, ho⟩
  have := hu.fin hx
  exact (ord_iff clsP zs).2 this.symm
end Od
end Go.Proofs.YtclcmkklonnalaaGreat

namespace Go.Proofs.YtclcmkklonnalaaGreat
namespace Od
open Go.RowKit

/-- Whether a run is in order. -/
theorem SdI.run {w : World} {b : Nat} {zs : List Int} {ao : Option Addr} {cap o2 o3 o4 pl pb : Nat} {pre : List (Nat × Nat)} {A : World} (hB : Bk w b) (hn : zs.length ≤ 1000000) (hS : SlP .i32 w ao cap zs) (h : SdI w b zs ao cap o2 o3 o4 pl pb pre A) {f t : Nat} (hx : NextR clsP zs pre (f, t)) :
    ∃ g off, ao = some ⟨g, off, none⟩ ∧ ∀ A' cb, A' = A.alloc (.cells #[.pointer (some ⟨b, 0, none⟩)] 38) → cb = A.heap.size → ∀ cap', t - f ≤ cap' → Calls Tryz.prog 46 #[.slice (some ⟨g, off + f, none⟩) (t - f) cap', .func (.func 89) #[] #[.pointer (some ⟨cb, 0, none⟩)]] A' fun e w' => ∃ r, e = .returned (.bool r) ∧ (∀ C, KeepsFrom C A w') ∧ (r = true → SdI w b zs ao cap o2 o3 o4 pl pb (pre ++ [(f, t)]) w') ∧ (r = false → SdX w zs o4 (pre ++ [(f, t)]) w') := by
  have q1 : f < t := hx.2.1
  have q2 : t ≤ zs.length := hx.2.2.1
  obtain ⟨g, off, e0, hg, _⟩ := hS.at_ f (by omega)
  refine ⟨g, off, e0, fun A' cb e1 e2 cap' hc' => ?_⟩
  have hbA : Below A.heap.size A A' := by rw [e1]; exact (Below.refl _ _).alloc (Nat.le_refl _) _
  have hbx : Bx A' cb (.pointer (some ⟨b, 0, none⟩)) 38 := by rw [e1, e2]; exact Bx.new _ _ _
  have hbw : Below w.heap.size w A' := h.bel.trans (hbA.mono h.bel.size)
  have hlX : ((zs.take t).drop f).length = t - f := by rw [List.length_drop, List.length_take]; omega
  have hsl : SlP .i32 A' (some ⟨g, off + f, none⟩) cap' ((zs.take t).drop f) := by
    refine ⟨by omega, fun e => (by cases e), fun j hj => ?_⟩
    obtain ⟨g', off', e, hg', hc⟩ := hS.at_ (f + j) (by omega)
    rw [e0] at e
    have e3 : g' = g ∧ off' = off := by
      have := Option.some.inj e
      injection this with a1 a2 _
      exact ⟨a1.symm, a2.symm⟩
    obtain ⟨rfl, rfl⟩ := e3
    have hs := hbw.size
    refine ⟨g', off' + f, rfl, Nat.lt_of_lt_of_le hg' hs, ?_⟩
    have e4 : ((zs.take t).drop f)[j] = zs[f + j]'(by omega) := by rw [List.getElem_drop, List.getElem_take]
    rw [e4, Nat.add_assoc, ← hc]
    exact hbw.cell (p := ⟨g', off' + (f + j), none⟩) hg'
  have hC : CmpB clsP (fun W => Below w.heap.size w W ∧ Bx W cb (.pointer (some ⟨b, 0, none⟩)) 38) #[.pointer (some ⟨cb, 0, none⟩)] := ⟨fun W x y hW => byc1_any (hB.step hW.1) hW.2 x y, fun W W' hW ha => ⟨hW.1.trans (ha.mono hW.1.size), hW.2.step ha⟩⟩
  refine (isf_any A' (some ⟨g, off + f, none⟩) (t - f) cap' hC _ hlX hsl ⟨hbw, hbx⟩ (by omega)).mono ?_
  rintro e W4 ⟨⟨r, he, hr⟩, hb4⟩
  have hb5 : Below A.heap.size A W4 := hbA.trans (hb4.mono hbA.size)
  have h1 := h.keep (N := w.heap.size) (Kc.of_below hb5) (Nat.le_refl _)
  have h2 := next_ord hx h.ord
  exact ⟨r, he, fun C => ⟨hb5.size, fun k o _ hk _ => (hb5.block k (Array.getElem?_eq_some_iff.1 hk).1).trans hk⟩, fun hh => ⟨h1.bel, h1.b2, h1.b3, h1.b4, h1.bl, h1.bb, h2.1 (hr.1 hh)⟩, fun hh => ⟨h1.bel, h1.b4, h2.2 (fun hN => by rw [hr.2 hN] at hh; cases hh)⟩⟩
end Od
end Go.Proofs.YtclcmkklonnalaaGreat

namespace Go.Proofs.YtclcmkklonnalaaGreat
namespace Od
open Go.RowKit

attribute [local go_sem] Oper.semAt_some
set_option maxRecDepth 100000 in
set_option maxHeartbeats 4000000 in
theorem sorted_any {w : World} {b : Nat} {v : Value} {zs : List Int} (hB : Bk w b) (hS : Sl .i32 w v zs) (hn : zs.length ≤ 1000000) :
    Calls Tryz.prog 21 #[.pointer (some ⟨b, 0, none⟩), v] w fun e w' => e = .returned (.bool (decide (srt clsP zs = zs))) ∧ Below w.heap.size w w' := by
  have HB := hid hB
  obtain ⟨ao, cap, rfl, hS⟩ := hS
  have HS := hid hS
  have HI2 : Hid (SdI w b zs ao cap w.heap.size (w.heap.size + 1) (w.heap.size + 1 + 1) (w.heap.size + 1 + 1 + 1 + 1) (w.heap.size + 1 + 1 + 1) [] (((((w.alloc (.cells #[.pointer (some ⟨b, 0, none⟩)] 38)).alloc (.cells #[.slice ao zs.length cap] 22)).alloc (.cells #[.bool false] 4)).alloc (.cells #[.pointer (some ⟨b, 0, none⟩)] 38)).alloc (.cells #[.slice ao zs.length cap] 22))) := by
    refine ⟨((((((Below.refl _ _).alloc (Nat.le_refl _) _).alloc (by simp) _).alloc (by simp; omega) _).alloc (by simp; omega) _).alloc (by simp; omega) _), ((((Bx.new w _ _).alloc _).alloc _).alloc _).alloc _, ?_, ?_, ?_, ?_, trivial⟩
    · have := (((Bx.new (w.alloc (.cells #[.pointer (some ⟨b, 0, none⟩)] 38)) (.slice ao zs.length cap) 22).alloc (.cells #[.bool false] 4)).alloc (.cells #[.pointer (some ⟨b, 0, none⟩)] 38)).alloc (.cells #[.slice ao zs.length cap] 22)
      simpa using this
    · have := ((Bx.new ((w.alloc (.cells #[.pointer (some ⟨b, 0, none⟩)] 38)).alloc (.cells #[.slice ao zs.length cap] 22)) (.bool false) 4).alloc (.cells #[.pointer (some ⟨b, 0, none⟩)] 38)).alloc (.cells #[.slice ao zs.length cap] 22)
      simpa using this
    · have := Bx.new ((((w.alloc (.cells #[.pointer (some ⟨b, 0, none⟩)] 38)).alloc (.cells #[.slice ao zs.length cap] 22)).alloc (.cells #[.bool false] 4)).alloc (.cells #[.pointer (some ⟨b, 0, none⟩)] 38)) (.slice ao zs.length cap) 22
      simpa using this
    · have := (Bx.new (((w.alloc (.cells #[.pointer (some ⟨b, 0, none⟩)] 38)).alloc (.cells #[.slice ao zs.length cap] 22)).alloc (.cells #[.bool false] 4)) (.pointer (some ⟨b, 0, none⟩)) 38).alloc (.cells #[.slice ao zs.length cap] 22)
      simpa using this
  clear hB hS
  refine (callsIn_wide (n := 6)).1 ?_
  refine callsIn_of_wp_marks Tryz.func21 rfl trivial ?_ rfl
  simp only [Tryz.ntmps21, List.size_toArray, List.length_cons, List.length_nil, Nat.reduceAdd, Nat.reduceSub, Array.replicate_succ, Array.replicate_zero, List.push_toArray, List.append_toArray, List.nil_append, List.cons_append]
  gi_wp2_with (first | (refine ⟨trivial, ?_⟩; gi_at_call 45; refine (callsIn_wide.2 (runs_any _ _ _ _ _)).mono ?_; rintro e w' ⟨rfl, rfl⟩))
  obtain ⟨W0, hW0⟩ : ∃ W0, W0 = (((((w.alloc (.cells #[.pointer (some ⟨b, 0, none⟩)] 38)).alloc (.cells #[.slice ao zs.length cap] 22)).alloc (.cells #[.bool false] 4)).alloc (.cells #[.pointer (some ⟨b, 0, none⟩)] 38)).alloc (.cells #[.slice ao zs.length cap] 22)) := ⟨_, rfl⟩
  rw [← hW0] at HI2 ⊢
  have hT := runs1_tells 5 b ao cap (w.heap.size + 1 + 1 + 1 + 1) (w.heap.size + 1 + 1 + 1) (by omega) zs hn W0
  have hz0 : w.heap.size ≤ W0.heap.size := HI2.out.bel.size
  clear hW0
  refine wpIn_told2 rfl (by omega) (gf := 88) (lb := #[.pointer (some ⟨w.heap.size + 1 + 1 + 1 + 1, 0, none⟩), .pointer (some ⟨w.heap.size + 1 + 1 + 1, 0, none⟩)]) rfl trivial (enters_of Tryz.func88 (by kernel_rfl) rfl) hT (fun _ => rfl)
    (SdI w b zs ao cap w.heap.size (w.heap.size + 1) (w.heap.size + 1 + 1) (w.heap.size + 1 + 1 + 1 + 1) (w.heap.size + 1 + 1 + 1)) (SdX w zs (w.heap.size + 1 + 1)) (fun pre A B h hk => h.keep hk hz0) (fun pre A B h hk => h.keep hk hz0) (fun pre A h => h.ne HB.out HS.out) HI2.out
    (fun x => { tmps := #[.pointer (some ⟨b, 0, none⟩), .slice ao zs.length cap, .pointer (some ⟨w.heap.size, 0, none⟩), .pointer (some ⟨w.heap.size + 1, 0, none⟩), .pointer (some ⟨w.heap.size + 1 + 1, 0, none⟩), .int .i64 (x.1 : Int), .int .i64 (x.2 : Int), .pointer (some ⟨b, 0, none⟩), .slice ao zs.length cap, .func (.func 88) #[] #[.pointer (some ⟨w.heap.size + 1 + 1 + 1 + 1, 0, none⟩), .pointer (some ⟨w.heap.size + 1 + 1 + 1, 0, none⟩)], .int .i64 (x.1 : Int), .int .i64 (x.2 : Int), undef, undef, undef, undef, undef, undef, undef, undef], defers := [] }) ?assign ?body ?done ?stop
  case assign =>
    intro l x W K hK
    have e : (#[10, 11].zip (toldR x)).foldl (fun (t : Array Value) (p : Nat × Value) => t.setIfInBounds p.1 p.2) #[.pointer (some ⟨b, 0, none⟩), .slice ao zs.length cap, .pointer (some ⟨w.heap.size, 0, none⟩), .pointer (some ⟨w.heap.size + 1, 0, none⟩), .pointer (some ⟨w.heap.size + 1 + 1, 0, none⟩), undef, undef, .pointer (some ⟨b, 0, none⟩), .slice ao zs.length cap, .func (.func 88) #[] #[.pointer (some ⟨w.heap.size + 1 + 1 + 1 + 1, 0, none⟩), .pointer (some ⟨w.heap.size + 1 + 1 + 1, 0, none⟩)], undef, undef, undef, undef, undef, undef, undef, undef, undef, undef] = #[.pointer (some ⟨b, 0, none⟩), .slice ao zs.length cap, .pointer (some ⟨w.heap.size, 0, none⟩), .pointer (some ⟨w.heap.size + 1, 0, none⟩), .pointer (some ⟨w.heap.size + 1 + 1, 0, none⟩), undef, undef, .pointer (some ⟨b, 0, none⟩), .slice ao zs.length cap, .func (.func 88) #[] #[.pointer (some ⟨w.heap.size + 1 + 1 + 1 + 1, 0, none⟩), .pointer (some ⟨w.heap.size + 1 + 1 + 1, 0, none⟩)], .int .i64 (x.1 : Int), .int .i64 (x.2 : Int), undef, undef, undef, undef, undef, undef, undef, undef] := by simp [toldR]
    rw [e]
    gi_wp2
    exact hK
  case body =>
    rintro l pre ⟨f, t⟩ W hI hR
    clear hT
    have hID : SdI w b zs ao cap w.heap.size (w.heap.size + 1) (w.heap.size + 1 + 1) (w.heap.size + 1 + 1 + 1 + 1) (w.heap.size + 1 + 1 + 1) pre W.drew := hI.keep (Kc.of_below ((Below.refl _ _).drew)) (Nat.le_refl _)
    have q1 : f < t := hR.2.1
    have q2 : t ≤ zs.length := hR.2.2.1
    have q3 := HS.out.fits
    obtain ⟨g, off, rfl, hrun⟩ := hID.run HB.out hn HS.out hR
    have HRun := hid (hrun _ _ rfl rfl)
    have c3 := hID.b3.cell
    have c2 := hID.b2.cell
    have c3a : ∀ o, (W.drew.alloc o).cell? ⟨w.heap.size + 1, 0, none⟩ = some (.slice (some ⟨g, off, none⟩) zs.length cap) := fun o => (hID.b3.alloc o).cell
    have c3b : ∀ o, (W.alloc o).drew.cell? ⟨w.heap.size + 1, 0, none⟩ = some (.slice (some ⟨g, off, none⟩) zs.length cap) := fun o => c3a o
    have hmx : Tryz.prog.follows .mixedOrders = true := by kernel_rfl
    have hcc : t - f ≤ cap - f := by omega
    have hkd : ∀ C X, KeepsFrom C W.drew X → KeepsFrom C W X := fun C X h => ⟨h.size, h.same⟩
    clear hID hI hR HI2 hrun
    gi_wp2_with fail
    refine region_round (F := Fence.wide) l hmx (by kernel_rfl) ?_
    refine wpAnyIn_take (i := 1) (v := .int .i64 (f : Int)) rfl rfl (by kernel_rfl) (by kernel_rfl) (by kernel_rfl) (fun _ _ _ h => h) ⟨Or.inl ⟨by rfl, by (intro w; go_simp)⟩, fun _ => rfl⟩ ?_
    refine wpAnyIn_take (i := 2) (v := .int .i64 (t : Int)) rfl rfl (by kernel_rfl) (by kernel_rfl) (by kernel_rfl) (fun _ _ _ h => h) ⟨Or.inl ⟨by rfl, by (intro w; go_simp)⟩, fun _ => rfl⟩ ?_
    refine wpAnyIn_ready (rs := [0, 4]) (by kernel_rfl) (by simp) ?_
    refine AllReadyIn.cons rfl (fun K hK => ?_) ?_
    · go_simp
      refine hK _ _ ?_
      clear hK K
      refine wpAnyIn_take (i := 3) (v := .slice (some ⟨g, off + f, none⟩) (t - f) (cap - f)) rfl rfl (by kernel_rfl) (by kernel_rfl) (by kernel_rfl) (fun _ _ _ h => h) ⟨Or.inl ⟨by rfl, by (intro w; go_simp; rw [if_pos (by omega), if_pos (by omega), if_neg (by omega)])⟩, fun _ => rfl⟩ ?_
      refine wpAnyIn_ready (rs := [4]) (by kernel_rfl) (by simp) ?_
      refine AllReadyIn.cons rfl (fun K hK => ?_) ?_
      · go_simp
        refine hK _ _ ?_
        clear hK K
        refine wpAnyIn_ready (rs := [5]) (by kernel_rfl) (by simp) ?_
        refine AllReadyIn.cons rfl (fun K hK => ?_) ?_
        · go_simp
          gi_wp2_with (first | (refine ⟨trivial, ?_⟩; gi_at_call 47; refine (callsIn_wide.2 (byc_any _ _)).mono ?_; rintro e W3 ⟨rfl, rfl⟩))
          try (refine hK _ _ ?_; clear hK K)
          refine wpAnyIn_ready (rs := [6]) (by kernel_rfl) (by simp) ?_
          refine AllReadyIn.cons rfl (fun K hK => ?_) AllReadyIn.nil
          go_simp
          gi_wp2_with (first | (refine ⟨trivial, ?_⟩; gi_at_call 46; refine (callsIn_wide.2 (HRun.out _ hcc)).mono ?_; rintro e W4 ⟨r, rfl, hend⟩; have HEnd := hid hend; clear hend))
          try (refine hK _ _ ?_; clear hK K)
          refine wpAnyIn_take (i := 7) (v := .bool (!r)) rfl rfl (by kernel_rfl) (by kernel_rfl) (by kernel_rfl) (fun _ _ _ h => h) ⟨Or.inl ⟨by rfl, by (intro w; go_simp)⟩, fun _ => rfl⟩ ?_
          refine wpAnyIn_done (by kernel_rfl) ?_ _
          cases r with
          | true =>
            gi_wp2_with fail
            exact ⟨hkd _ _ (HEnd.out.1 _), HEnd.out.2.1 (by first | rfl | trivial)⟩
          | false =>
            have hx := HEnd.out.2.2 rfl
            have cx := hx.2.1.cell
            have fx := hx.2.1.frozen
            have HX := hid (And.intro (hkd _ _ (HEnd.out.1 W0.heap.size)) hx)
            clear hx HEnd
            gi_wp2_with fail
            exact ⟨HX.out.1.trans ((KeepsOthers.setCell _ _ _).from _), HX.out.2.1.setCell (p := ⟨w.heap.size + 1 + 1, 0, none⟩) (by show _ ≤ w.heap.size + 1 + 1; omega) _, HX.out.2.2.1.set _, HX.out.2.2.2⟩
        exact AllReadyIn.nil
      exact AllReadyIn.nil
    refine AllReadyIn.cons rfl (fun K hK => ?_) ?_
    · go_simp
      refine hK _ _ ?_
      clear hK K
      refine wpAnyIn_ready (rs := [0, 5]) (by kernel_rfl) (by simp) ?_
      refine AllReadyIn.cons rfl (fun K hK => ?_) ?_
      · go_simp
        refine hK _ _ ?_
        clear hK K
        refine wpAnyIn_take (i := 3) (v := .slice (some ⟨g, off + f, none⟩) (t - f) (cap - f)) rfl rfl (by kernel_rfl) (by kernel_rfl) (by kernel_rfl) (fun _ _ _ h => h) ⟨Or.inl ⟨by rfl, by (intro w; go_simp; rw [if_pos (by omega), if_pos (by omega), if_neg (by omega)])⟩, fun _ => rfl⟩ ?_
        refine wpAnyIn_ready (rs := [5]) (by kernel_rfl) (by simp) ?_
        refine AllReadyIn.cons rfl (fun K hK => ?_) ?_
        · go_simp
          gi_wp2_with (first | (refine ⟨trivial, ?_⟩; gi_at_call 47; refine (callsIn_wide.2 (byc_any _ _)).mono ?_; rintro e W3 ⟨rfl, rfl⟩))
          try (refine hK _ _ ?_; clear hK K)
          refine wpAnyIn_ready (rs := [6]) (by kernel_rfl) (by simp) ?_
          refine AllReadyIn.cons rfl (fun K hK => ?_) AllReadyIn.nil
          go_simp
          gi_wp2_with (first | (refine ⟨trivial, ?_⟩; gi_at_call 46; refine (callsIn_wide.2 (HRun.out _ hcc)).mono ?_; rintro e W4 ⟨r, rfl, hend⟩; have HEnd := hid hend; clear hend))
          try (refine hK _ _ ?_; clear hK K)
          refine wpAnyIn_take (i := 7) (v := .bool (!r)) rfl rfl (by kernel_rfl) (by kernel_rfl) (by kernel_rfl) (fun _ _ _ h => h) ⟨Or.inl ⟨by rfl, by (intro w; go_simp)⟩, fun _ => rfl⟩ ?_
          refine wpAnyIn_done (by kernel_rfl) ?_ _
          cases r with
          | true =>
            gi_wp2_with fail
            exact ⟨hkd _ _ (HEnd.out.1 _), HEnd.out.2.1 (by first | rfl | trivial)⟩
          | false =>
            have hx := HEnd.out.2.2 rfl
            have cx := hx.2.1.cell
            have fx := hx.2.1.frozen
            have HX := hid (And.intro (hkd _ _ (HEnd.out.1 W0.heap.size)) hx)
            clear hx HEnd
            gi_wp2_with fail
            exact ⟨HX.out.1.trans ((KeepsOthers.setCell _ _ _).from _), HX.out.2.1.setCell (p := ⟨w.heap.size + 1 + 1, 0, none⟩) (by show _ ≤ w.heap.size + 1 + 1; omega) _, HX.out.2.2.1.set _, HX.out.2.2.2⟩
        exact AllReadyIn.nil
      refine AllReadyIn.cons rfl (fun K hK => ?_) ?_
      · go_simp
        gi_wp2_with (first | (refine ⟨trivial, ?_⟩; gi_at_call 47; refine (callsIn_wide.2 (byc_any _ _)).mono ?_; rintro e W3 ⟨rfl, rfl⟩))
        try (refine hK _ _ ?_; clear hK K)
        refine wpAnyIn_ready (rs := [0]) (by kernel_rfl) (by simp) ?_
        refine AllReadyIn.cons rfl (fun K hK => ?_) ?_
        · go_simp
          refine hK _ _ ?_
          clear hK K
          refine wpAnyIn_take (i := 3) (v := .slice (some ⟨g, off + f, none⟩) (t - f) (cap - f)) rfl rfl (by kernel_rfl) (by kernel_rfl) (by kernel_rfl) (fun _ _ _ h => h) ⟨Or.inl ⟨by rfl, by (intro w; go_simp; rw [if_pos (by omega), if_pos (by omega), if_neg (by omega)])⟩, fun _ => rfl⟩ ?_
          refine wpAnyIn_ready (rs := [6]) (by kernel_rfl) (by simp) ?_
          refine AllReadyIn.cons rfl (fun K hK => ?_) AllReadyIn.nil
          go_simp
          gi_wp2_with (first | (refine ⟨trivial, ?_⟩; gi_at_call 46; refine (callsIn_wide.2 (HRun.out _ hcc)).mono ?_; rintro e W4 ⟨r, rfl, hend⟩; have HEnd := hid hend; clear hend))
          try (refine hK _ _ ?_; clear hK K)
          refine wpAnyIn_take (i := 7) (v := .bool (!r)) rfl rfl (by kernel_rfl) (by kernel_rfl) (by kernel_rfl) (fun _ _ _ h => h) ⟨Or.inl ⟨by rfl, by (intro w; go_simp)⟩, fun _ => rfl⟩ ?_
          refine wpAnyIn_done (by kernel_rfl) ?_ _
          cases r with
          | true =>
            gi_wp2_with fail
            exact ⟨hkd _ _ (HEnd.out.1 _), HEnd.out.2.1 (by first | rfl | trivial)⟩
          | false =>
            have hx := HEnd.out.2.2 rfl
            have cx := hx.2.1.cell
            have fx := hx.2.1.frozen
            have HX := hid (And.intro (hkd _ _ (HEnd.out.1 W0.heap.size)) hx)
            clear hx HEnd
            gi_wp2_with fail
            exact ⟨HX.out.1.trans ((KeepsOthers.setCell _ _ _).from _), HX.out.2.1.setCell (p := ⟨w.heap.size + 1 + 1, 0, none⟩) (by show _ ≤ w.heap.size + 1 + 1; omega) _, HX.out.2.2.1.set _, HX.out.2.2.2⟩
        exact AllReadyIn.nil
      exact AllReadyIn.nil
    exact AllReadyIn.nil
  case done =>
    rintro D xs W hD hS hI hK
    clear hT
    have c4 := hI.b4.cell
    have f4 := hI.b4.frozen
    have HA := hid (all_ord hS hI.ord)
    have hDo : D ≠ w.heap.size + 1 + 1 := by
      intro e
      have h4 : W.heap[w.heap.size + 1 + 1]? = _ := hI.b4
      rw [e, h4] at hK
      cases hK
    have hK1 : (W.setCell ⟨w.heap.size + 1 + 1, 0, none⟩ (.bool true)).heap[D]? = some (.deferred (some [])) := (Below.heap_setCell _ _ _ _ hDo).trans hK
    have hkc : Kc W0.heap.size (W.setCell ⟨w.heap.size + 1 + 1, 0, none⟩ (.bool true)) ((W.setCell ⟨w.heap.size + 1 + 1, 0, none⟩ (.bool true)).putObj D (.deferred none)) := Kc.grown (grownBy_putObj' _ D (.deferred none)) (fun r e => by cases e; exact ⟨hD, _, hK1, rfl⟩)
    have HE : Hid (((W.setCell ⟨w.heap.size + 1 + 1, 0, none⟩ (.bool true)).putObj D (.deferred none)).cell? ⟨w.heap.size + 1 + 1, 0, none⟩ = some (.bool true) ∧ Below w.heap.size w ((W.setCell ⟨w.heap.size + 1 + 1, 0, none⟩ (.bool true)).putObj D (.deferred none))) :=
      ⟨(hkc.bx (hI.b4.set _)).cell, hkc.below (hI.bel.setCell (p := ⟨w.heap.size + 1 + 1, 0, none⟩) (by show _ ≤ w.heap.size + 1 + 1; omega) _) hz0 (Nat.le_refl _)⟩
    have HK1 := hid hK1
    clear hI hS hkc hK1
    gi_wp2
    refine ⟨by simp, .inl ⟨_, _, rfl, run_takeDeferred HK1.out, ?_⟩⟩
    refine ⟨.bool true, ?_, ?_⟩
    · simp [results, Tryz.results21, go_sem, HE.out.1]
    · exact ⟨ret_bool (decide_eq_true HA.out.srt_eq).symm, HE.out.2⟩
  case stop =>
    intro D xs W hD h hK
    clear hT
    have hkc : Kc W0.heap.size W (W.putObj D (.deferred none)) := Kc.grown (grownBy_putObj' _ D (.deferred none)) (fun r e => by cases e; exact ⟨hD, _, hK, rfl⟩)
    have HE : Hid ((W.putObj D (.deferred none)).cell? ⟨w.heap.size + 1 + 1, 0, none⟩ = some (.bool false) ∧ Below w.heap.size w (W.putObj D (.deferred none)) ∧ ¬ Ord clsP zs) := ⟨(hkc.bx h.2.1).cell, hkc.below h.1 hz0 (Nat.le_refl _), h.2.2⟩
    clear h hkc
    gi_wp2
    refine ⟨by simp, .inl ⟨_, _, rfl, run_takeDeferred hK, ?_⟩⟩
    refine ⟨.bool false, ?_, ?_⟩
    · simp [results, Tryz.results21, go_sem, HE.out.1]
    · exact ⟨ret_bool (decide_eq_false (fun e => HE.out.2.2 ((ord_iff clsP zs).2 e))).symm, HE.out.2.1⟩
end Od
end Go.Proofs.YtclcmkklonnalaaGreat

namespace Go.Proofs.YtclcmkklonnalaaGreat
namespace Od
open Go.RowKit

theorem run_index_agg {P : Program} (w : World) (t e : TypeId) (n : Nat) (ty : TypeInfo) (cs : Array Value) (k : IntKind) (i : Nat) (ht : P.underlying t = some (.array n e)) (hi : P.info? e = some ty) (h : i < n) :
    (Instr.index t (.agg cs) (.int k (i : Int))).run P w = (part e cs (i * ty.size)).run P w := by
  simp [Instr.index, asIntOf, run_underlying ht, sizeOf, typeInfo, hi]
  intro hn
  omega
theorem cls_row (r : Int) : clsP r = (Uc.rrowP r).2.2.2.2.2.1 := by
  unfold clsP
  rw [Uc.book_tells r]
  rfl

set_option maxHeartbeats 1000000 in
theorem rcls_any (r : Int) (w : World) : Calls Tryz.prog 54 #[.int .i64 r] w fun e w' => e = .returned (.int .i64 (clsP r)) ∧ Below w.heap.size w w' := by
  have HR := hid (Uc.rrow_any r w)
  have HE := hid (cls_row r)
  generalize Uc.rrowP r = x at *
  obtain ⟨x1, x2, x3, x4, x5, x6, x7⟩ := x
  simp only [Uc.rlv, Uc.rcells7] at HR HE
  obtain ⟨i0, hi, hz0, hz1, hz2⟩ := info_parts Tryz.info_i64
  have hidx : ∀ w, (Instr.index 145 (.agg #[.int .i64 x1, .int .i64 x2, .int .i64 x3, .int .i64 x4, .int .i64 x5, .int .i64 x6, .int .i64 x7]) (.int .i64 5)).run Tryz.prog w = .ok (.int .i64 x6) w := fun w => by
    have := run_index_agg (P := Tryz.prog) w 145 3 7 i0 #[.int .i64 x1, .int .i64 x2, .int .i64 x3, .int .i64 x4, .int .i64 x5, .int .i64 x6, .int .i64 x7] .i64 5 Tryz.underlying145 hi (by omega)
    refine this.trans ?_
    rw [hz1]
    simp [part, isAgg, run_underlying Tryz.underlying3]
  clear hi hz0 hz1 hz2
  go_enter Tryz.func54, Tryz.ntmps54
  go_wp2_with (go_at_call 99; refine HR.out.mono ?_; rintro e w1 ⟨rfl, hb⟩)
  go_ret
  exact ⟨ret_int HE.out.symm, hb⟩

/-- A block that begins with these ints. -/
def Blq (w : World) (b : Nat) (R : List Int) (T : List Value) : Prop := w.heap[b]? = some (.cells (ivs .i64 R ++ T).toArray 3)
theorem Blq.lt {w : World} {b : Nat} {R : List Int} {T : List Value} (h : Blq w b R T) : b < w.heap.size := (Array.getElem?_eq_some_iff.1 h).1
theorem Blq.cell {w : World} {b : Nat} {R : List Int} {T : List Value} (h : Blq w b R T) (k : Nat) (v : Int) (hk : R[k]? = some v) : w.cell? ⟨b, k, none⟩ = some (.int .i64 v) := by
  have h' : w.heap[b]? = _ := h
  have hlt : k < R.length := (List.getElem?_eq_some_iff.1 hk).1
  simp only [World.cell?, h', List.getElem?_toArray]
  rw [List.getElem?_append_left (by rw [ivs_len]; exact hlt)]
  simp [ivs, hk]
theorem Blq.frozen {w : World} {b : Nat} {R : List Int} {T : List Value} (h : Blq w b R T) (k : Nat) : w.frozen? ⟨b, k, none⟩ = false := by
  have h' : w.heap[b]? = _ := h
  simp [World.frozen?, h']
theorem Blq.set {w : World} {b : Nat} {R : List Int} {T : List Value} (h : Blq w b R T) (k : Nat) (v : Int) (hk : k < R.length) : Blq (w.setCell ⟨b, k, none⟩ (.int .i64 v)) b (R.set k v) T := by
  have h' : w.heap[b]? = _ := h
  have e : (ivs .i64 R ++ T).set k (.int .i64 v) = ivs .i64 (R.set k v) ++ T := by
    rw [List.set_append_left _ _ (by rw [ivs_len]; exact hk)]
    simp [ivs, List.map_set]
  simp [Blq, World.setCell, Array.getElem?_modify, h', e]
theorem Blq.other {w : World} {b g : Nat} {R : List Int} {T : List Value} (h : Blq w b R T) (k : Nat) (v : Value) (hg : b ≠ g) : Blq (w.setCell ⟨g, k, none⟩ v) b R T := (Below.heap_setCell _ _ _ _ hg).trans h
theorem Blq.step {w w' : World} {b : Nat} {R : List Int} {T : List Value} (h : Blq w b R T) (hb : Below w.heap.size w w') : Blq w' b R T := (hb.block b h.lt).trans h
theorem Blq.sl {w : World} {b : Nat} {R : List Int} {T : List Value} (h : Blq w b R T) (cap : Nat) (hc : R.length ≤ cap) : Sn .i64 w (.slice (some ⟨b, 0, none⟩) R.length cap) R :=
  ⟨_, cap, rfl, hc, fun e => (by cases e), fun j hj => ⟨b, 0, rfl, h.lt, by rw [Nat.zero_add]; exact h.cell _ _ (List.getElem?_eq_getElem hj)⟩⟩
theorem own_blq {w : World} {B : Nat} {v : Value} {l : List Int} (h : w.ownsRow B 3 1 v l.length (ivs .i64 l)) (hs : isSome v) : ∃ g cap T, v = .slice (some ⟨g, 0, none⟩) l.length cap ∧ l.length ≤ cap ∧ B ≤ g ∧ Blq w g l T := by
  rcases h.2 with ⟨h1, h2⟩ | ⟨g, cap, cur, rfl, h2, h3, h4, h5, h6, h7⟩
  · rw [h1] at hs; exact hs.elim
  · refine ⟨g, cap, cur.toList.drop l.length, rfl, h4, h2, ?_⟩
    show w.heap[g]? = _
    rw [h3]
    have e3 : (ivs .i64 l ++ cur.toList.drop l.length).toArray = cur := by
      have h10 : cur.toList.take l.length = ivs .i64 l := by simpa using h7
      rw [← h10, List.take_append_drop]
    rw [e3]

/-- What the reference's rounds keep: the numbers, and their classes. -/
structure RsW (w : World) (g gc : Nat) (T Tc : List Value) (cur : List Int) (W : World) : Prop where
  ne : g ≠ gc
  lo : w.heap.size ≤ g ∧ w.heap.size ≤ gc
  o : Blq W g cur T
  c : Blq W gc (cur.map clsP) Tc
  ok : Ok w.heap.size w W
theorem RsW.swap {w : World} {g gc : Nat} {T Tc : List Value} {A B : List Int} {x y : Int} {W : World} (h : RsW w g gc T Tc (A ++ x :: y :: B) W) (p q : Nat) (hp : p = A.length) (hq : q = A.length + 1) :
    RsW w g gc T Tc (A ++ y :: x :: B) ((((W.setCell ⟨g, q, none⟩ (.int .i64 x)).setCell ⟨gc, q, none⟩ (.int .i64 (clsP x))).setCell ⟨g, p, none⟩ (.int .i64 y)).setCell ⟨gc, p, none⟩ (.int .i64 (clsP y))) := by
  have e1 : ((A ++ x :: y :: B).set q x).set p y = A ++ y :: x :: B := by
    have := set_swap A [] B x y p q hp (by simpa using hq)
    rw [List.set_comm _ _ (by omega)] 
    simpa using this
  have e2 : (((A ++ x :: y :: B).map clsP).set q (clsP x)).set p (clsP y) = (A ++ y :: x :: B).map clsP := by
    rw [← List.map_set, ← List.map_set, e1]
  refine ⟨h.ne, h.lo, ?_, ?_, ?_⟩
  · have := ((((h.o.set q x (by simp; omega)).other q (.int .i64 (clsP x)) h.ne).set p y (by simp; omega)).other p (.int .i64 (clsP y)) h.ne)
    rwa [e1] at this
  · have := ((((h.c.other q (.int .i64 x) (Ne.symm h.ne)).set q (clsP x) (by simp; omega)).other p (.int .i64 y) (Ne.symm h.ne)).set p (clsP y) (by simp; omega))
    rwa [e2] at this
  · have hb := ((((h.ok.1.setCell (p := ⟨g, q, none⟩) h.lo.1 (.int .i64 x)).setCell (p := ⟨gc, q, none⟩) h.lo.2 (.int .i64 (clsP x))).setCell (p := ⟨g, p, none⟩) h.lo.1 (.int .i64 y)).setCell (p := ⟨gc, p, none⟩) h.lo.2 (.int .i64 (clsP y)))
    exact ⟨hb, by simpa [World.setCell] using h.ok.2⟩
theorem RsW.drew {w : World} {g gc : Nat} {T Tc : List Value} {cur : List Int} {W : World} (h : RsW w g gc T Tc cur W) : RsW w g gc T Tc cur W.drew := ⟨h.ne, h.lo, h.o, h.c, h.ok.step ((Below.refl _ _).drew)⟩
end Od
end Go.Proofs.YtclcmkklonnalaaGreat

namespace Go.Proofs.YtclcmkklonnalaaGreat
namespace Od
open Go.RowKit

/-- append(out, l...) onto an empty slice of the call's own. -/
theorem app_all {ops : Array Oper} {rest : List Oper} {o : Oper} {a : Act} {Q : Exit → Act → World → Prop} (hgd : o.guard = none) (s x : Operand)
    (ho : o.op = .call { callee := .builtin .append, args := #[s, x], argTypes := #[28, 28] }) (W : World) (B : Nat) (v : Value) (ad : Addr) (cap : Nat) (xs zs : List Int) (hs : a.eval s = v) (hx : a.eval x = .slice (some ad) zs.length cap)
    (hown : W.ownsRow B 3 1 v xs.length (ivs .i64 xs)) (hsv : isSome v) (hz : SlP .i64 W (some ad) cap zs) (hn : xs.length + zs.length ≤ 1000000000) (hB : B ≤ W.heap.size)
    (h : ∀ v' w', w'.ownsRow B 3 1 v' (xs ++ zs).length (ivs .i64 (xs ++ zs)) → isSome v' → Below B W w' → (∀ k, k < W.heap.size → v.ownBlock ≠ some k → w'.heap[k]? = W.heap[k]?) → wpList Tryz.prog ops Q rest (a.put o.dst v') w') :
    wpList Tryz.prog ops Q (o :: rest) a W := by
  obtain ⟨i0, hi, hz0, hz1, hz2⟩ := info_parts Tryz.info_i64
  refine wpList_append_own_at _ hgd s x 28 ho B 3 i0 (.int .i64 0) 1 8 Tryz.underlying28 hi hz0 hz1 hz2 rfl (by decide) v xs.length (ivs .i64 xs) hs hown ad zs.length cap (ivs .i64 zs) hx (by rw [ivs_len]; omega)
    (fun j u hj => ?_) (fun u hu => by simp [ivs] at hu; obtain ⟨z, _, rfl⟩ := hu; rfl) (by unfold maxLen; omega) (by omega) hB (fun v' w' h1 h2 h3 _ => h v' w' ?_ ?_ (below_of_grown h2 B hB (fun k e => (hown.lt k e).1)) (fun k hk hne => h2.block k hk (fun e => hne e.symm)))
  · have hlt : j < zs.length := by
      have := (List.getElem?_eq_some_iff.1 hj).1
      rwa [ivs_len] at this
    obtain ⟨b, off, e, hb, hc⟩ := hz.at_ j hlt
    simp at e
    subst e
    have e2 : (⟨b, off, none⟩ : Addr).add j = ⟨b, off + j, none⟩ := by unfold Addr.add; split <;> simp_all
    rw [e2, hc]
    simp [ivs, hlt] at hj
    rw [hj]
  · have e : ivs .i64 xs ++ ivs .i64 zs = ivs .i64 (xs ++ zs) := by simp [ivs]
    rw [List.length_append, ← e]; exact h1
  · rcases h1.2 with ⟨e1, _⟩ | ⟨g, cap', cur, rfl, _⟩
    · rw [(h3.1 e1).1] at hsv; exact hsv.elim
    · trivial

set_option maxRecDepth 100000 in
set_option maxHeartbeats 4000000 in
theorem rsort_any {w : World} {v : Value} {zs : List Int} (hS : Sn .i64 w v zs) (hn : zs.length ≤ 1000000) :
    Calls Tryz.prog 28 #[v] w fun e w' => ∃ v', e = .returned v' ∧ Sn .i64 w' v' (srt clsP zs) ∧ Below w.heap.size w w' := by
  obtain ⟨ad, cap, rfl, hS⟩ := hS
  have HS := hid hS
  clear hS
  have HO : Hid ((w.alloc (.cells #[] 3)).ownsRow w.heap.size 3 1 (.slice (some ⟨w.heap.size, 0, none⟩) 0 0) 0 []) := World.ownsRow_made w #[] 0 (Nat.le_refl _) (by unfold maxLen; omega) rfl
  have hok := hid ((Ok.start w).alloc (o := .cells #[] 3))
  have HCl := hid (fun r w => rcls_any r w)
  go_enter Tryz.func28, Tryz.ntmps28
  go_wp2_with (at_builtin; refine app_all rfl (.tmp 11) (.tmp 12) rfl _ w.heap.size _ ad cap [] zs rfl rfl HO.out trivial (HS.out.step ((Below.refl _ _).alloc (Nat.le_refl _) _)) (by simp; omega) hok.out.2 (fun v' w1 h1 h2 h3 _ => ?_); obtain ⟨g, capo, T, rfl, hcapo, hgo, hBo⟩ := own_blq h1 h2; have H1 : Hid (Blq w1 g zs T ∧ w.heap.size ≤ g ∧ Ok w.heap.size w w1 ∧ zs.length ≤ capo) := ⟨hBo, hgo, ok_below h3 hok.out, hcapo⟩; clear h1 h2 h3 hcapo hgo hBo)
  clear HO hok HS
  have HO : Hid ((w1.alloc (.cells #[] 3)).ownsRow w1.heap.size 3 1 (.slice (some ⟨w1.heap.size, 0, none⟩) 0 0) 0 []) := World.ownsRow_made w1 #[] 0 (Nat.le_refl _) (by unfold maxLen; omega) rfl
  have hok := hid ((Ok.start w1).alloc (o := .cells #[] 3))
  go_loopg [4, 5] zs.length (fun gg vo vi wr => ∃ k : Nat, vi = .int .i64 k ∧ k ≤ zs.length ∧ gg = zs.length - k ∧ Hid (wr.ownsRow w1.heap.size 3 1 vo k (ivs .i64 ((zs.take k).map clsP)) ∧ Ok w1.heap.size w1 wr ∧ isSome vo))
  case atStart => exact ⟨0, rfl, Nat.zero_le _, rfl, HO.out, hok.out, trivial⟩
  case round =>
    obtain ⟨k, rfl, hk, hg, H⟩ := hrel
    have HG := hid hg
    clear hg HO hok
    by_cases hlt : k < zs.length
    · have hc := (H1.out.1.step (H.out.2.1.1)).cell k zs[k] (List.getElem?_eq_getElem hlt)
      have HT : Hid (ivs .i64 ((zs.take (k + 1)).map clsP) = ivs .i64 ((zs.take k).map clsP) ++ [.int .i64 (clsP zs[k])]) := by
        show _ = _; rw [List.take_succ_eq_append_getElem hlt, List.map_append, List.map_cons, List.map_nil, ivs_snoc]
      have HC1 := hid (fun W => HCl.out zs[k] W)
      generalize clsP zs[k] = cz at *
      generalize zs[k] = z at *
      go_wp2_with (first | (go_at_call 54; refine (HC1.out _).mono ?_; rintro e w2 ⟨rfl, hb2⟩; have H2 : Hid (w2.ownsRow w1.heap.size 3 1 _ k _ ∧ Ok w1.heap.size w1 w2 ∧ isSome _) := ⟨Uc.own_below H.out.1 hb2, H.out.2.1.step hb2, H.out.2.2⟩; clear hb2) | (at_builtin; refine app_i64 rfl (.tmp 21) (.tmp 27) rfl w2 w1.heap.size k _ _ cz rfl w2.heap.size rfl rfl H2.out.1 (by omega) H2.out.2.1.2 (fun v' w' h1 h2 => ?_)))
      have H3 : Hid (w'.ownsRow w1.heap.size 3 1 v' (k + 1) (ivs .i64 ((zs.take (k + 1)).map clsP)) ∧ Ok w1.heap.size w1 w' ∧ isSome v') := ⟨by rw [HT.out]; exact h1, ok_below h2 H2.out.2.1, own_some h1 (Nat.succ_pos k)⟩
      clear h1 h2
      go_roundg (zs.length - (k + 1))
      case measure => rw [HG.out]; omega
      case rel => exact ⟨k + 1, by go_num, by omega, rfl, H3.out⟩
    · have e : k = zs.length := by omega
      subst e
      obtain ⟨gc, capc, Tc, hvo, hcapc, HR⟩ : ∃ gc capc Tc, u4 = .slice (some ⟨gc, 0, none⟩) zs.length capc ∧ zs.length ≤ capc ∧ Hid (RsW w g gc T Tc zs wr) := by
        obtain ⟨h1, h2, h3⟩ := H.out
        rw [List.take_length] at h1
        have h1' : wr.ownsRow w1.heap.size 3 1 u4 (zs.map clsP).length (ivs .i64 (zs.map clsP)) := by rw [List.length_map]; exact h1
        obtain ⟨gc, capc, Tc, e1, e2, e3, e4⟩ := own_blq h1' h3
        rw [List.length_map] at e1 e2
        have := H1.out.1.lt
        have hs := H1.out.2.2.1.1.size
        refine ⟨gc, capc, Tc, e1, e2, by omega, ⟨H1.out.2.1, by omega⟩, H1.out.1.step h2.1, e4, H1.out.2.2.1.step h2.1⟩
      subst hvo
      clear H HG
      go_wp2_with fail
      go_loopg [6, 7, 8, 9] zs.length (fun gg vk _ _ _ wr => ∃ k : Nat, vk = .int .i64 k ∧ k ≤ zs.length ∧ gg = zs.length - k ∧ Hid (RsW w g gc T Tc (itp clsP k zs) wr))
      case atStart => exact ⟨0, rfl, Nat.zero_le _, rfl, HR.out⟩
      case round =>
        clear HR
        obtain ⟨k, rfl, hk, hg, H⟩ := hrel
        have HG := hid hg
        clear hg
        have HLn := hid ((sw_itp clsP k zs).len)
        have HIt := hid (itp_succ clsP k zs)
        by_cases hlt : k < zs.length
        · generalize itp clsP k zs = cur at *
          obtain ⟨x0, l0, rfl⟩ : ∃ x l, cur = x :: l := by
            cases cur with
            | nil => have := HLn.out; simp at this; omega
            | cons x l => exact ⟨x, l, rfl⟩
          go_wp2_with fail
          go_loopg [7, 8, 9] zs.length (fun g2 vi _ _ wr => ∃ i : Nat, vi = .int .i64 i ∧ 1 ≤ i ∧ i ≤ zs.length ∧ g2 = zs.length - i + 1 ∧ Hid (∃ A x rest, A.length + 1 = i ∧ RsW w g gc T Tc (A ++ x :: rest) wr ∧ A ++ bub clsP x rest = bub clsP x0 l0 ∧ (A ++ x :: rest).length = zs.length))
          case atStart => exact ⟨1, rfl, Nat.le_refl _, by omega, by omega, [], x0, l0, rfl, H.out, rfl, HLn.out⟩
          case round =>
            clear H
            obtain ⟨i, rfl, hi1, hi2, hg2, H2⟩ := hrel
            have HG2 := hid hg2
            clear hg2
            by_cases hlt2 : i < zs.length
            · obtain ⟨ip, rfl⟩ : ∃ ip, i = ip + 1 := ⟨i - 1, by omega⟩
              obtain ⟨A, x, y, rest, H3⟩ : ∃ A x y rest, Hid (A.length = ip ∧ RsW w g gc T Tc (A ++ x :: y :: rest) wr ∧ A ++ bub clsP x (y :: rest) = bub clsP x0 l0 ∧ (A ++ x :: y :: rest).length = zs.length) := by
                obtain ⟨A, x, rest, e1, e2, e3, e4⟩ := H2.out
                cases rest with
                | nil => simp at e4; omega
                | cons y rest => exact ⟨A, x, y, rest, by omega, e2, e3, e4⟩
              clear H2
              have k1 : (A ++ x :: y :: rest)[ip]? = some x := by rw [← H3.out.1]; simp
              have k2 : (A ++ x :: y :: rest)[ip + 1]? = some y := by rw [← H3.out.1]; simp
              have c1 := H3.out.2.1.o.cell ip x k1
              have c2 := H3.out.2.1.o.cell (ip + 1) y k2
              have d1 := H3.out.2.1.c.cell ip (clsP x) (by rw [List.getElem?_map, k1]; rfl)
              have d2 := H3.out.2.1.c.cell (ip + 1) (clsP y) (by rw [List.getElem?_map, k2]; rfl)
              have c1d : wr.drew.cell? ⟨g, ip, none⟩ = some (.int .i64 x) := c1
              have c2d : wr.drew.cell? ⟨g, ip + 1, none⟩ = some (.int .i64 y) := c2
              have d1d : wr.drew.cell? ⟨gc, ip, none⟩ = some (.int .i64 (clsP x)) := d1
              have d2d : wr.drew.cell? ⟨gc, ip + 1, none⟩ = some (.int .i64 (clsP y)) := d2
              have HW := hid H3.out.2.1
              clear k1 k2
              have z1 : (ip : Int) + 1 < (zs.length : Int) := by omega
              have z2 : (ip : Int) < (zs.length : Int) := by omega
              have hwp : IntKind.i64.wrap (ip : Int) = (ip : Int) := by rw [IntKind.wrap_i64]; omega
              have p0 : (0 : Int) ≤ (ip : Int) + 1 := by omega
              have e0 : ((ip : Int) + 1).toNat = ip + 1 := by omega
              have hy0 := (cls_bd y).1
              have hne := HW.out.ne
              have hne' := Ne.symm hne
              have fg := fun k => HW.out.o.frozen k
              have fc := fun k => HW.out.c.frozen k
              by_cases hc : 0 < clsP y ∧ clsP y < clsP x
              · have HSW := hid ((HW.out.swap ip (ip + 1) H3.out.1.symm (by rw [H3.out.1])).drew.drew)
                have HBub : Hid (A ++ [y] ++ bub clsP x rest = bub clsP x0 l0) := by
                  show _ = _
                  rw [← H3.out.2.2.1]
                  simp only [bub]
                  rw [if_pos hc]
                  simp
                have hc1 : ¬ clsP y = 0 := by omega
                have hc2 : clsP y < clsP x := hc.2
                have hc3 : (clsP y != 0) = true := by simpa using hc1
                clear hc hy0
                generalize clsP y = cy at *
                generalize clsP x = cx at *
                go_wp2_with fail
                go_region
                go_wp2_with fail
                go_region
                go_wp2_with fail
                go_roundg (zs.length - (ip + 1 + 1) + 1)
                case measure => rw [HG2.out]; omega
                case rel => exact ⟨ip + 1 + 1, by go_num, by omega, by omega, rfl, A ++ [y], x, rest, by rw [List.length_append, H3.out.1]; rfl, by simpa using HSW.out, HBub.out, by have := H3.out.2.2.2; simp at this ⊢; omega⟩
              · have HSW := hid HW.out.drew
                have HBub : Hid (A ++ [x] ++ bub clsP y rest = bub clsP x0 l0) := by
                  show _ = _
                  rw [← H3.out.2.2.1]
                  simp only [bub]
                  rw [if_neg hc]
                  simp
                by_cases hc1 : clsP y = 0
                · have hc3 : (clsP y != 0) = false := by simpa using hc1
                  clear hc hy0
                  rw [hc1] at d2 d2d
                  clear hc3 hc1
                  generalize clsP x = cx at *
                  go_wp2_with fail
                  go_region
                  go_wp2_with fail
                  go_roundg (zs.length - (ip + 1 + 1) + 1)
                  case measure => rw [HG2.out]; omega
                  case rel => exact ⟨ip + 1 + 1, by go_num, by omega, by omega, rfl, A ++ [x], y, rest, by rw [List.length_append, H3.out.1]; rfl, by simpa using HSW.out, HBub.out, by have := H3.out.2.2.2; simp at this ⊢; omega⟩
                · have hc3 : (clsP y != 0) = true := by simpa using hc1
                  have hc2 : ¬ clsP y < clsP x := by omega
                  have hc4 : decide (clsP y < clsP x) = false := decide_eq_false hc2
                  clear hc hy0
                  generalize clsP y = cy at *
                  generalize clsP x = cx at *
                  go_wp2_with fail
                  go_region
                  go_wp2_with fail
                  go_roundg (zs.length - (ip + 1 + 1) + 1)
                  case measure => rw [HG2.out]; omega
                  case rel => exact ⟨ip + 1 + 1, by go_num, by omega, by omega, rfl, A ++ [x], y, rest, by rw [List.length_append, H3.out.1]; rfl, by simpa using HSW.out, HBub.out, by have := H3.out.2.2.2; simp at this ⊢; omega⟩
            · have H3 : Hid (RsW w g gc T Tc (itp clsP (k + 1) zs) wr) := by
                obtain ⟨A, x, rest, e1, e2, e3, e4⟩ := H2.out
                have : rest = [] := List.eq_nil_of_length_eq_zero (by simp at e4; omega)
                subst this
                rw [HIt.out]
                show RsW w g gc T Tc (bub clsP x0 l0) wr
                rw [← e3]; exact e2
              clear H2
              go_wp2_with fail
              go_roundg (zs.length - (k + 1))
              case measure => rw [HG.out]; omega
              case rel => exact ⟨k + 1, by go_num, by omega, rfl, H3.out⟩
        · have e : k = zs.length := by omega
          have HE : Hid (itp clsP k zs = srt clsP zs) := by show _ = _; rw [e]; exact itp_all clsP (fun x => (cls_bd x).1) zs
          have HLe : Hid ((srt clsP zs).length = zs.length) := (sw_srt clsP zs).len
          go_wp2_with fail
          go_ret
          have h1 := H.out
          rw [HE.out] at h1
          refine ⟨_, rfl, ?_, h1.ok.1⟩
          have h2 := h1.o.sl capo (by rw [HLe.out]; exact H1.out.2.2.2)
          rw [HLe.out] at h2
          exact h2
end Od
end Go.Proofs.YtclcmkklonnalaaGreat

namespace Go.Proofs.YtclcmkklonnalaaGreat
namespace Od
open Go.RowKit

theorem awake_srt : srt clsP [97, 769, 803] = [97, 803, 769] := by
  have h1 : clsP 97 = 0 := by kernel_rfl
  have h2 : clsP 769 = 230 := by kernel_rfl
  have h3 : clsP 803 = 220 := by kernel_rfl
  simp only [srt, ins]
  rw [h2, h3]
  simp [ins, h1, h3]

theorem sl3 (k : IntKind) (w : World) (t : TypeId) (x y z : Int) (N : Nat) (hN : N = w.heap.size) : Sn k (w.alloc (.cells #[.int k x, .int k y, .int k z] t)) (.slice (some ⟨N, 0, none⟩) 3 3) [x, y, z] := by
  subst hN
  have hb := heap_new w (.cells #[.int k x, .int k y, .int k z] t)
  refine ⟨_, 3, rfl, Nat.le_refl _, fun e => (by cases e), fun j hj => ⟨w.heap.size, 0, rfl, by simp, ?_⟩⟩
  simp only [World.cell?, hb]
  match j, hj with
  | 0, _ => rfl
  | 1, _ => rfl
  | 2, _ => rfl


/-- A law's slice of runes. -/
theorem row_sl {w : World} {a : Option Addr} {len cap : Nat} {zs : List Int} (h : (a = none ∧ len = 0 ∧ cap = 0 ∧ zs = []) ∨ ∃ x, a = some x ∧ len ≤ cap ∧ cap ≤ maxLen ∧ zs.length = cap ∧ (∀ i, i < zs.length → w.cell? (x.add i) = some (.int .i32 (zs.getD i 0))) ∧ ∀ n ∈ zs, (Lit.int .i32 n).wf = true) : (zs.take len).length = len ∧ SlP .i32 w a cap (zs.take len) ∧ ∀ y ∈ zs.take len, -2147483648 ≤ y ∧ y ≤ 2147483647 := by
  rcases h with ⟨rfl, rfl, rfl, rfl⟩ | ⟨x, rfl, hl, hm, hz, hcell, hwz⟩
  · exact ⟨rfl, ⟨Nat.le_refl _, fun _ => ⟨rfl, rfl⟩, fun k hk => by simp at hk⟩, fun y hy => by simp at hy⟩
  · have hlen : (zs.take len).length = len := by rw [List.length_take]; omega
    refine ⟨hlen, ⟨by omega, fun e => (by cases e), fun k hk => ?_⟩, fun y hy => by have h := hwz y (List.mem_of_mem_take hy); simp only [Lit.wf, Bool.and_eq_true, decide_eq_true_eq] at h; exact h⟩
    rw [hlen] at hk
    obtain ⟨b, off, spot⟩ := x
    have hc := hcell k (by omega)
    have hspot : spot = none := by simpa [Addr.add] using World.cell?_spot (hcell 0 (by omega))
    subst hspot
    have hadd : (⟨b, off, none⟩ : Addr).add k = ⟨b, off + k, none⟩ := by unfold Addr.add; split <;> simp_all
    rw [hadd] at hc
    refine ⟨b, off, rfl, World.block_lt_of_cell? w _ hc, ?_⟩
    rw [hc, List.getElem_take]
    simp [List.getD_eq_getElem?_getD, List.getElem?_eq_getElem (show k < zs.length by omega)]
theorem bd_srt {zs : List Int} (h : ∀ y ∈ zs, -2147483648 ≤ y ∧ y ≤ 2147483647) : ∀ y ∈ srt clsP zs, -2147483648 ≤ y ∧ y ≤ 2147483647 := fun y hy => h y ((sw_srt clsP zs).perm.mem_iff.2 hy)
end Od
end Go.Proofs.YtclcmkklonnalaaGreat

namespace Go.Proofs.YtclcmkklonnalaaGreat
namespace Od
open Go.RowKit

theorem getD_in {l : List Int} {k : Nat} (h : k < l.length) : l.getD k 0 = l[k] := by rw [List.getD_eq_getElem?_getD, List.getElem?_eq_getElem h]; rfl

set_option maxRecDepth 100000 in
set_option maxHeartbeats 2000000 in
theorem rstart_any {w : World} {ad : Addr} {cap len : Nat} {zs : List Int} (hL : zs.length = len) (hS : SlP .i64 w (some ad) cap zs) (hn : len ≤ 1000000) (i : Nat) (hi : i ≤ len) :
    Calls Tryz.prog 65 #[.slice (some ad) len cap, .int .i64 (i : Int)] w fun e w' => e = .returned (.int .i64 (startN clsP zs i)) ∧ Below w.heap.size w w' := by
  have HS := hid hS
  have HL := hid hL
  have H0 := hid (Ok.start w)
  have HCl := hid (fun r w => rcls_any r w)
  clear hS hL
  go_enter Tryz.func65, Tryz.ntmps65
  go_wp2_with fail
  go_loopg [5, 6] i (fun g vo vi wr => ∃ k : Nat, vo = .int .i64 (startN clsP zs k) ∧ vi = .int .i64 k ∧ k ≤ i ∧ g = i - k ∧ Hid (Ok w.heap.size w wr))
  case atStart => exact ⟨0, rfl, rfl, Nat.zero_le _, rfl, H0.out⟩
  case round =>
    obtain ⟨k, rfl, rfl, hk, hg, H⟩ := hrel
    have HG := hid hg
    clear hg H0
    by_cases hlt : k < i
    · have hlx : k < zs.length := by have := HL.out; omega
      obtain ⟨b, off, e0, hb, c1⟩ := HS.out.at_ k hlx
      have e0' := Option.some.inj e0
      subst e0'
      have d1 := (H.out.1.cell (p := ⟨b, off + k, none⟩) hb).trans c1
      have HE : Hid (startN clsP zs (k + 1) = if clsP zs[k] = 0 then (k : Int) else startN clsP zs k) := by
        show _ = _
        rw [startN, getD_in hlx]
      have HV := hid (HCl.out zs[k] wr)
      clear c1
      generalize zs[k] = x at *
      have z1 : (k : Int) < (len : Int) := by omega
      have z2 : (k : Int) < (i : Int) := by omega
      generalize hsk : startN clsP zs k = sk at *
      by_cases hc : clsP x = 0
      · have HR : Hid (startN clsP zs (k + 1) = (k : Int)) := by show _ = _; rw [HE.out, if_pos hc]
        rw [hc] at HV
        clear hc HE
        go_wp2_with fail
        refine HV.out.mono ?_
        rintro e w' ⟨rfl, hb'⟩
        have hok := hid (H.out.step hb')
        clear hb'
        go_wp2_with fail
        go_roundg (i - (k + 1))
        case measure => rw [HG.out]; omega
        case rel => exact ⟨k + 1, by rw [HR.out], by go_num, by omega, rfl, hok.out⟩
      · have HR : Hid (startN clsP zs (k + 1) = sk) := by show _ = _; rw [HE.out, if_neg hc]
        have hc2 : (clsP x == 0) = false := by simpa using hc
        generalize clsP x = cx at *
        go_wp2_with fail
        refine HV.out.mono ?_
        rintro e w' ⟨rfl, hb'⟩
        have hok := hid (H.out.step hb')
        clear hb'
        go_wp2_with fail
        go_roundg (i - (k + 1))
        case measure => rw [HG.out]; omega
        case rel => exact ⟨k + 1, by rw [HR.out], by go_num, by omega, rfl, hok.out⟩
    · have e : k = i := by omega
      subst e
      have z2 : ¬ (k : Int) < (k : Int) := by omega
      by_cases hkl : k < len
      · have z1 : (k : Int) < (len : Int) := by omega
        go_wp2_with fail
        go_ret
        exact ⟨rfl, H.out.1⟩
      · have z1 : ¬ (k : Int) < (len : Int) := by omega
        go_wp2_with fail
        go_ret
        exact ⟨rfl, H.out.1⟩

theorem any_drop (p : Int → Bool) (l : List Int) (k : Nat) (h : k < l.length) : (l.drop k).any p = (p l[k] || (l.drop (k + 1)).any p) := by rw [List.drop_eq_getElem_cons h]; rfl

set_option maxRecDepth 100000 in
set_option maxHeartbeats 2000000 in
theorem rblocked_any {w : World} {ad : Addr} {cap len : Nat} {zs : List Int} (hL : zs.length = len) (hS : SlP .i64 w (some ad) cap zs) (hn : len ≤ 1000000) (i : Nat) (hi : i < len) :
    Calls Tryz.prog 66 #[.slice (some ad) len cap, .int .i64 (i : Int)] w fun e w' => e = .returned (.bool (blockedP clsP zs i)) ∧ Below w.heap.size w w' := by
  have HSt := hid (rstart_any hL hS hn i (by omega))
  have HS := hid hS
  have HL := hid hL
  have H0 := hid (Ok.start w)
  have HCl := hid (fun r w => rcls_any r w)
  have hbd := startN_bd clsP zs i
  have HE : Hid (blockedP clsP zs i = (decide (0 ≤ startN clsP zs i) && ((zs.take i).drop ((startN clsP zs i).toNat + 1)).any (fun r => decide (clsP (zs.getD i 0) ≤ clsP r)))) := rfl
  clear hS hL
  generalize startN clsP zs i = s at *
  by_cases hs : s < 0
  · have HR : Hid (blockedP clsP zs i = false) := by show _ = _; rw [HE.out, decide_eq_false (by omega), Bool.false_and]
    go_enter Tryz.func66, Tryz.ntmps66
    go_wp2_with fail
    refine HSt.out.mono ?_
    rintro e w1 ⟨rfl, hb1⟩
    have HO1 := hid (H0.out.step hb1)
    clear hb1
    go_wp2_with fail
    go_ret
    exact ⟨ret_bool HR.out.symm, HO1.out.1⟩
  · obtain ⟨sn, rfl⟩ : ∃ sn : Nat, s = (sn : Int) := ⟨s.toNat, by omega⟩
    have hsi : sn < i := by omega
    have hil : i < zs.length := by have := HL.out; omega
    have hsn : ¬ (sn : Int) < 0 := by omega
    have HR : Hid (blockedP clsP zs i = ((zs.take i).drop (sn + 1)).any (fun r => decide (clsP zs[i] ≤ clsP r))) := by
      show _ = _
      rw [HE.out, decide_eq_true (by omega), Bool.true_and, getD_in hil]; rfl
    clear HE
    obtain ⟨b, off, e0, hb, ci⟩ := HS.out.at_ i hil
    have e0' := Option.some.inj e0
    subst e0'
    have HV := hid (fun w => HCl.out zs[i] w)
    have hown := (cls_bd zs[i]).1
    generalize zs[i] = y at *
    generalize clsP y = own at *
    have z1 : (i : Int) < (len : Int) := by omega
    go_enter Tryz.func66, Tryz.ntmps66
    go_wp2_with fail
    refine HSt.out.mono ?_
    rintro e w1 ⟨rfl, hb1⟩
    have HO1 := hid (H0.out.step hb1)
    clear hb1
    have ci1 := (HO1.out.1.cell (p := ⟨b, off + i, none⟩) hb).trans ci
    go_wp2_with fail
    refine (HV.out _).mono ?_
    rintro e w2 ⟨rfl, hb2⟩
    have HO2 := hid (HO1.out.step hb2)
    clear hb2 HO1 ci1
    go_wp2_with fail
    go_loopg [7] (i - (sn + 1)) (fun g vi wr => ∃ k : Nat, vi = .int .i64 k ∧ sn + 1 ≤ k ∧ k ≤ i ∧ g = i - k ∧ Hid (Ok w.heap.size w wr ∧ blockedP clsP zs i = ((zs.take i).drop k).any (fun r => decide (own ≤ clsP r))))
    case atStart => exact ⟨sn + 1, by go_num, Nat.le_refl _, by omega, rfl, HO2.out, HR.out⟩
    case round =>
      clear HO2
      obtain ⟨k, rfl, hk1, hk2, hg, H⟩ := hrel
      have HG := hid hg
      clear hg
      by_cases hlt : k < i
      · have hlx : k < zs.length := by omega
        have hlt2 : k < (zs.take i).length := by rw [List.length_take]; omega
        obtain ⟨b', off', e0, hb', c1⟩ := HS.out.at_ k hlx
        have e3 : b = b' ∧ off = off' := by
          have := Option.some.inj e0
          injection this with a1 a2 _
          exact ⟨a1, a2⟩
        obtain ⟨rfl, rfl⟩ := e3
        have d1 := (H.out.1.1.cell (p := ⟨b, off + k, none⟩) hb).trans c1
        have HE : Hid (blockedP clsP zs i = (decide (own ≤ clsP zs[k]) || ((zs.take i).drop (k + 1)).any (fun r => decide (own ≤ clsP r)))) := by
          show _ = _
          rw [H.out.2, any_drop _ _ k hlt2, List.getElem_take]
        have HV2 := hid (HCl.out zs[k] wr)
        have hx0 := (cls_bd zs[k]).1
        clear c1
        generalize zs[k] = x at *
        have q1 : (k : Int) < (len : Int) := by omega
        have q2 : (k : Int) < (i : Int) := by omega
        by_cases ho : own = 0
        · subst ho
          have HT : Hid (blockedP clsP zs i = true) := by show _ = _; rw [HE.out, decide_eq_true hx0]; rfl
          go_wp2_with fail
          go_ret
          exact ⟨ret_bool HT.out.symm, H.out.1.1⟩
        · have ho2 : (own == 0) = false := by simpa using ho
          by_cases hc : own ≤ clsP x
          · have HT : Hid (blockedP clsP zs i = true) := by show _ = _; rw [HE.out, decide_eq_true hc]; rfl
            generalize clsP x = cx at *
            go_wp2_with fail
            refine HV2.out.mono ?_
            rintro e w3 ⟨rfl, hb3⟩
            have HO3 := hid (H.out.1.step hb3)
            clear hb3
            go_wp2_with fail
            go_ret
            exact ⟨ret_bool HT.out.symm, HO3.out.1⟩
          · have HT : Hid (blockedP clsP zs i = ((zs.take i).drop (k + 1)).any (fun r => decide (own ≤ clsP r))) := by show _ = _; rw [HE.out, decide_eq_false hc]; rfl
            clear HE
            generalize clsP x = cx at *
            have hc3 : decide (own ≤ cx) = false := decide_eq_false hc
            go_wp2_with fail
            refine HV2.out.mono ?_
            rintro e w3 ⟨rfl, hb3⟩
            have HO3 := hid (H.out.1.step hb3)
            clear hb3
            go_wp2_with fail
            go_roundg (i - (k + 1))
            case measure => rw [HG.out]; omega
            case rel => exact ⟨k + 1, by go_num, by omega, by omega, rfl, HO3.out, HT.out⟩
      · have q2 : ¬ (k : Int) < (i : Int) := by omega
        have HT : Hid (blockedP clsP zs i = false) := by
          show _ = _
          rw [H.out.2, List.drop_eq_nil_of_le (by rw [List.length_take]; omega)]; rfl
        go_wp2_with fail
        go_ret
        exact ⟨ret_bool HT.out.symm, H.out.1.1⟩
end Od
end Go.Proofs.YtclcmkklonnalaaGreat
