import Derived.Test.YtpegpagdhaijjaaOrd13
namespace Go.Proofs.Ytpegpagdhaijjaa
namespace Od
open Go.RowKit

/-- No class is less than the one ahead. -/
def NoD (c : Int → Int) (X : List Int) : Prop := ∀ i (h : i + 1 < X.length), ¬ c X[i + 1] < c X[i]
theorem NoD.ord {c : Int → Int} : ∀ {X : List Int}, NoD c X → Ord c X
  | [], _ => trivial
  | [_], _ => trivial
  | x :: y :: l, h => ⟨by have := h 0 (by simp); simp at this; omega, NoD.ord (fun i hi => by have := h (i + 1) (by simp at hi ⊢; omega); simpa using this)⟩
theorem ord_at {c : Int → Int} : ∀ {X : List Int}, Ord c X → ∀ i (h : i + 1 < X.length), ¬ (0 < c X[i + 1] ∧ c X[i + 1] < c X[i])
  | [], _, i, h => by simp at h
  | [_], _, i, h => by simp at h
  | x :: y :: l, ho, 0, h => ho.1
  | x :: y :: l, ho, i + 1, h => by
    have := ord_at ho.2 i (by simp at h ⊢; omega)
    simpa using this

/-- The function that holds two classes against each other, where nothing is turned. -/
structure CmpB (c : Int → Int) (G : World → Prop) (cb : Array Value) : Prop where
  call : ∀ W x y, G W → Calls Try.prog 67 (#[.int .i32 x, .int .i32 y] ++ cb) W fun e w' => e = .returned (.int .i64 (cmpI (c x) (c y))) ∧ Below W.heap.size W w'
  keep : ∀ W W', G W → Below W.heap.size W W' → G W'
/-- What is told of order. -/
def SfR (c : Int → Int) (X : List Int) (e : Ending) : Prop := ∃ r, e = .returned (.bool r) ∧ (r = true ↔ NoD c X)

set_option maxRecDepth 100000 in
set_option maxHeartbeats 2000000 in
theorem isf_any {G : World → Prop} {cb : Array Value} {c : Int → Int} (w : World) (ao : Option Addr) (n cap : Nat) (hC : CmpB c G cb) (X : List Int) (hX : X.length = n) (hS : SlP .i32 w ao cap X) (hG : G w) (hn : n ≤ 1000000) :
    Calls Try.prog 42 #[.slice ao n cap, .func (.func 67) #[] cb] w fun e w' => SfR c X e ∧ Below w.heap.size w w' := by
  have HC := hid hC
  have HX := hid hX
  have HS := hid hS
  have H0 : Hid (G w ∧ Ok w.heap.size w w) := ⟨hG, Ok.start w⟩
  clear hC hX hS hG
  by_cases h0 : n = 0
  · subst h0
    go_enter Try.func42, Try.ntmps42
    go_wp2_with fail
    refine wp_loop_rounds 1 ?_
    rw [rounds_succ]
    go_wp2_with fail
    go_ret
    exact ⟨⟨true, rfl, fun _ i h => by have := HX.out; omega, fun _ => rfl⟩, Below.refl _ _⟩
  · have e1 : IntKind.i64.wrap ((n : Int) - 1) = ((n - 1 : Nat) : Int) := by rw [IntKind.wrap_i64]; omega
    go_enter Try.func42, Try.ntmps42
    go_wp2_with fail
    go_loopg [5] n (fun g vi wr => ∃ k : Nat, vi = .int .i64 k ∧ k + 1 ≤ n ∧ k ≤ g ∧ Hid ((∀ i (h : i + 1 < X.length), k ≤ i → ¬ c X[i + 1] < c X[i]) ∧ G wr ∧ Ok w.heap.size w wr))
    case atStart => exact ⟨n - 1, by first | rfl | (congr 1; omega), by omega, by omega, fun i h1 h2 => by have := HX.out; omega, H0.out⟩
    case round =>
      obtain ⟨k, rfl, hk, hg, H⟩ := hrel
      clear e1 H0
      by_cases hk0 : k = 0
      · subst hk0
        go_wp2_with fail
        go_ret
        exact ⟨⟨true, rfl, fun _ i h => by have := H.out.1 i h (Nat.zero_le _); omega, fun _ => rfl⟩, H.out.2.2.1⟩
      · obtain ⟨kp, rfl⟩ : ∃ kp, k = kp + 1 := ⟨k - 1, by omega⟩
        have hlx : kp + 1 < X.length := by have := HX.out; omega
        obtain ⟨b, off, rfl, hb, c1⟩ := HS.out.at_ (kp + 1) hlx
        obtain ⟨b', off', e', _, c2⟩ := HS.out.at_ kp (by omega)
        simp at e'
        obtain ⟨rfl, rfl⟩ := e'
        have d1 := (H.out.2.2.1.cell (p := ⟨b, off + (kp + 1), none⟩) hb).trans c1
        have d2 := (H.out.2.2.1.cell (p := ⟨b, off + kp, none⟩) hb).trans c2
        have HCell : Hid (∀ A, Ok w.heap.size w A → A.cell? ⟨b, off + (kp + 1), none⟩ = some (.int .i32 X[kp + 1]) ∧ A.cell? ⟨b, off + kp, none⟩ = some (.int .i32 X[kp])) := fun A hA => ⟨(hA.1.cell (p := ⟨b, off + (kp + 1), none⟩) hb).trans c1, (hA.1.cell (p := ⟨b, off + kp, none⟩) hb).trans c2⟩
        have HD : Hid (G wr.drew ∧ Ok w.heap.size w wr.drew) := ⟨HC.out.keep _ _ H.out.2.1 ((Below.refl _ _).drew), H.out.2.2.step ((Below.refl _ _).drew)⟩
        have HP : Hid ((¬ c X[kp + 1] < c X[kp] → ∀ i (h : i + 1 < X.length), kp ≤ i → ¬ c X[i + 1] < c X[i]) ∧ (c X[kp + 1] < c X[kp] → ¬ NoD c X)) := by
          refine ⟨fun hc i hi hki => ?_, fun hc hN => hN kp hlx hc⟩
          rcases Nat.lt_or_ge kp i with h1 | h1
          · exact H.out.1 i hi h1
          · have : i = kp := by omega
            subst this; exact hc
        clear c1 c2
        have HV := hid (fun W (h : G W) => HC.out.call W X[kp + 1] X[kp] h)
        have hcm := cmpI_lt (c X[kp + 1]) (c X[kp])
        rw [← hcm] at HP
        clear hcm
        generalize cmpI (c X[kp + 1]) (c X[kp]) = v at *
        generalize X[kp + 1] = x at *
        generalize X[kp] = y at *
        have jz : (kp : Int) + 1 < (n : Int) := by omega
        have jz1 : (kp : Int) < (n : Int) := by omega
        have hwp : IntKind.i64.wrap (kp : Int) = (kp : Int) := by rw [IntKind.wrap_i64]; omega
        have p0 : (0 : Int) ≤ (kp : Int) + 1 := by omega
        have e0 : ((kp : Int) + 1).toNat = kp + 1 := by omega
        have hpos : (0 : Int) < (kp : Int) + 1 := by omega
        by_cases hv : v < 0
        · have HN := hid (HP.out.2 hv)
          go_wp2_with fail
          go_region_held3 (fun w' => w'.cell? ⟨b, off + (kp + 1), none⟩ = some (.int .i32 x) ∧ w'.cell? ⟨b, off + kp, none⟩ = some (.int .i32 y))
            (first | exact HCell.out _ HD.out.2 | exact ⟨d1, d2⟩)
            (first | (go_at_call 67; refine (HV.out _ HD.out.1).mono ?_; rintro e w' ⟨rfl, hb'⟩; replace HD := hid (And.intro (HC.out.keep _ _ HD.out.1 hb') (HD.out.2.step hb')); clear hb'))
          go_wp2_with fail
          go_ret
          exact ⟨⟨false, rfl, fun h => (by cases h), fun h => absurd h HN.out⟩, HD.out.2.1⟩
        · have HN := hid (HP.out.1 hv)
          have hv2 : decide (v < 0) = false := decide_eq_false hv
          go_wp2_with fail
          go_region_held3 (fun w' => w'.cell? ⟨b, off + (kp + 1), none⟩ = some (.int .i32 x) ∧ w'.cell? ⟨b, off + kp, none⟩ = some (.int .i32 y))
            (first | exact HCell.out _ HD.out.2 | exact ⟨d1, d2⟩)
            (first | (go_at_call 67; refine (HV.out _ HD.out.1).mono ?_; rintro e w' ⟨rfl, hb'⟩; replace HD := hid (And.intro (HC.out.keep _ _ HD.out.1 hb') (HD.out.2.step hb')); clear hb'))
          go_wp2_with fail
          go_roundg kp
          case measure => omega
          case rel => exact ⟨kp, by first | rfl | go_num | (congr 1; omega), by omega, Nat.le_refl _, HN.out, HD.out⟩

/-! ### Sorted -/

/-- What Sorted keeps. -/
structure SdI (w : World) (b : Nat) (zs : List Int) (ao : Option Addr) (cap o2 o3 o4 pl pb : Nat) (pre : List (Nat × Nat)) (W : World) : Prop where
  bel : Below w.heap.size w W
  b2 : Bx W o2 (.pointer (some ⟨b, 0, none⟩)) 23
  b3 : Bx W o3 (.slice ao zs.length cap) 22
  b4 : Bx W o4 (.bool false) 4
  bl : Bx W pl (.slice ao zs.length cap) 22
  bb : Bx W pb (.pointer (some ⟨b, 0, none⟩)) 23
  ord : Ord clsP (zs.take (endOf pre))
/-- And what it keeps where it stops. -/
def SdX (w : World) (zs : List Int) (o4 : Nat) (_ : List (Nat × Nat)) (W : World) : Prop := Below w.heap.size w W ∧ Bx W o4 (.bool false) 4 ∧ ¬ Ord clsP zs
theorem SdI.keep {w : World} {b : Nat} {zs : List Int} {ao : Option Addr} {cap o2 o3 o4 pl pb N : Nat} {pre : List (Nat × Nat)} {A B : World} (h : SdI w b zs ao cap o2 o3 o4 pl pb pre A) (hk : Kc N A B) (hN : w.heap.size ≤ N) : SdI w b zs ao cap o2 o3 o4 pl pb pre B :=
  ⟨hk.below h.bel hN (Nat.le_refl _), hk.bx h.b2, hk.bx h.b3, hk.bx h.b4, hk.bx h.bl, hk.bx h.bb, h.ord⟩
theorem SdX.keep {w : World} {zs : List Int} {o4 N : Nat} {pre : List (Nat × Nat)} {A B : World} (h : SdX w zs o4 pre A) (hk : Kc N A B) (hN : w.heap.size ≤ N) : SdX w zs o4 pre B := ⟨hk.below h.1 hN (Nat.le_refl _), hk.bx h.2.1, h.2.2⟩
theorem SdI.ne {w : World} {b : Nat} {zs : List Int} {ao : Option Addr} {cap o2 o3 o4 pl pb : Nat} {pre : List (Nat × Nat)} {A : World} (hB : Bk w b) (hS : SlP .i32 w ao cap zs) (h : SdI w b zs ao cap o2 o3 o4 pl pb pre A) : NeR b ao cap pl pb zs pre A :=
  ⟨hB.step h.bel, h.bl, h.bb, fun i hi _ => by
    obtain ⟨g, off, e, hg, hc⟩ := hS.at_ i hi
    exact ⟨g, off, e, (h.bel.cell (p := ⟨g, off + i, none⟩) hg).trans hc⟩⟩
theorem next_ord {zs : List Int} {pre : List (Nat × Nat)} {f t : Nat} (hx : NextR clsP zs pre (f, t)) (ho : Ord clsP (zs.take (endOf pre))) : (NoD clsP ((zs.take t).drop f) → Ord clsP (zs.take (endOf (pre ++ [(f, t)])))) ∧ (¬ NoD clsP ((zs.take t).drop f) → ¬ Ord clsP zs) := by
  obtain ⟨x1, x2, x3, x4, x5, x6⟩ := hx
  simp only at x1 x2 x3 x4 x5 x6
  refine ⟨fun hN => ?_, fun hN hO => hN (fun i hi => ?_)⟩
  · rw [endOf_snoc]
    show Ord clsP (zs.take t)
    have e1 : zs.take t = zs.take (endOf pre) ++ (zs.take f).drop (endOf pre) ++ (zs.take t).drop f := by
      have e2 : zs.take (endOf pre) ++ (zs.take f).drop (endOf pre) = zs.take f := by
        conv => rhs; rw [← List.take_append_drop (endOf pre) (zs.take f)]
        rw [List.take_take, Nat.min_eq_left x1]
      rw [e2]
      conv => lhs; rw [← List.take_append_drop f (zs.take t)]
      rw [List.take_take, Nat.min_eq_left (by omega)]
    rw [e1]
    refine ord_glue (fun x => (cls_bd x).1) ho (fun z hz => ?_) hN.ord ?_
    · obtain ⟨i, hi, a1, a2, rfl⟩ := mem_seg hz
      exact x4 i hi a1 a2
    · rcases x6 with h | h
      · right; rw [h]; rfl
      · left
        intro e
        have := congrArg List.length e
        rw [List.length_drop, List.length_take] at this
        simp at this; omega
  · have hl := hi
    rw [List.length_drop, List.length_take] at hl
    have := ord_at hO (f + i) (by omega)
    have hp := x5 (f + i + 1) (by omega) (by omega) (by omega)
    have h0 := (cls_bd (zs[f + i + 1]'(by omega))).1
    intro hlt
    rw [List.getElem_drop, List.getElem_drop, List.getElem_take, List.getElem_take] at hlt
    exact this ⟨by omega, hlt⟩
theorem all_ord {zs : List Int} {xs : List (Nat × Nat)} (hx : AllR clsP zs xs) (ho : Ord clsP (zs.take (endOf xs))) : Ord clsP zs := by
  have hu : Upto clsP zs (endOf xs) zs := ⟨.refl _, rfl, ho⟩
  have := hu.fin hx
  exact (ord_iff clsP zs).2 this.symm
end Od
end Go.Proofs.Ytpegpagdhaijjaa

namespace Go.Proofs.Ytpegpagdhaijjaa
namespace Od
open Go.RowKit

/-- Whether a run is in order. -/
theorem SdI.run {w : World} {b : Nat} {zs : List Int} {ao : Option Addr} {cap o2 o3 o4 pl pb : Nat} {pre : List (Nat × Nat)} {A : World} (hB : Bk w b) (hn : zs.length ≤ 1000000) (hS : SlP .i32 w ao cap zs) (h : SdI w b zs ao cap o2 o3 o4 pl pb pre A) {f t : Nat} (hx : NextR clsP zs pre (f, t)) :
    ∃ g off, ao = some ⟨g, off, none⟩ ∧ ∀ A' cb, A' = A.alloc (.cells #[.pointer (some ⟨b, 0, none⟩)] 23) → cb = A.heap.size → ∀ cap', t - f ≤ cap' → Calls Try.prog 42 #[.slice (some ⟨g, off + f, none⟩) (t - f) cap', .func (.func 67) #[] #[.pointer (some ⟨cb, 0, none⟩)]] A' fun e w' => ∃ r, e = .returned (.bool r) ∧ (∀ C, KeepsFrom C A w') ∧ (r = true → SdI w b zs ao cap o2 o3 o4 pl pb (pre ++ [(f, t)]) w') ∧ (r = false → SdX w zs o4 (pre ++ [(f, t)]) w') := by
  have q1 : f < t := hx.2.1
  have q2 : t ≤ zs.length := hx.2.2.1
  obtain ⟨g, off, e0, hg, _⟩ := hS.at_ f (by omega)
  refine ⟨g, off, e0, fun A' cb e1 e2 cap' hc' => ?_⟩
  have hbA : Below A.heap.size A A' := by rw [e1]; exact (Below.refl _ _).alloc (Nat.le_refl _) _
  have hbx : Bx A' cb (.pointer (some ⟨b, 0, none⟩)) 23 := by rw [e1, e2]; exact Bx.new _ _ _
  have hbw : Below w.heap.size w A' := h.bel.trans (hbA.mono h.bel.size)
  have hlX : ((zs.take t).drop f).length = t - f := by rw [List.length_drop, List.length_take]; omega
  have hsl : SlP .i32 A' (some ⟨g, off + f, none⟩) cap' ((zs.take t).drop f) := by
    refine ⟨by omega, fun e => (by cases e), fun j hj => ?_⟩
    obtain ⟨g', off', e, hg', hc⟩ := hS.at_ (f + j) (by omega)
    rw [e0] at e
    have e3 : g' = g ∧ off' = off := by
      have := Option.some.inj e
      injection this with a1 a2 _
      exact ⟨a1.symm, a2.symm⟩
    obtain ⟨rfl, rfl⟩ := e3
    have hs := hbw.size
    refine ⟨g', off' + f, rfl, Nat.lt_of_lt_of_le hg' hs, ?_⟩
    have e4 : ((zs.take t).drop f)[j] = zs[f + j]'(by omega) := by rw [List.getElem_drop, List.getElem_take]
    rw [e4, Nat.add_assoc, ← hc]
    exact hbw.cell (p := ⟨g', off' + (f + j), none⟩) hg'
  have hC : CmpB clsP (fun W => Below w.heap.size w W ∧ Bx W cb (.pointer (some ⟨b, 0, none⟩)) 23) #[.pointer (some ⟨cb, 0, none⟩)] := ⟨fun W x y hW => byc1_any (hB.step hW.1) hW.2 x y, fun W W' hW ha => ⟨hW.1.trans (ha.mono hW.1.size), hW.2.step ha⟩⟩
  refine (isf_any A' (some ⟨g, off + f, none⟩) (t - f) cap' hC _ hlX hsl ⟨hbw, hbx⟩ (by omega)).mono ?_
  rintro e W4 ⟨⟨r, he, hr⟩, hb4⟩
  have hb5 : Below A.heap.size A W4 := hbA.trans (hb4.mono hbA.size)
  have h1 := h.keep (N := w.heap.size) (Kc.of_below hb5) (Nat.le_refl _)
  have h2 := next_ord hx h.ord
  exact ⟨r, he, fun C => ⟨hb5.size, fun k o _ hk _ => (hb5.block k (Array.getElem?_eq_some_iff.1 hk).1).trans hk⟩, fun hh => ⟨h1.bel, h1.b2, h1.b3, h1.b4, h1.bl, h1.bb, h2.1 (hr.1 hh)⟩, fun hh => ⟨h1.bel, h1.b4, h2.2 (fun hN => by rw [hr.2 hN] at hh; cases hh)⟩⟩
end Od
end Go.Proofs.Ytpegpagdhaijjaa

namespace Go.Proofs.Ytpegpagdhaijjaa
namespace Od
open Go.RowKit

attribute [local go_sem] Oper.semAt_some
set_option maxRecDepth 100000 in
set_option maxHeartbeats 4000000 in
theorem sorted_any {w : World} {b : Nat} {v : Value} {zs : List Int} (hB : Bk w b) (hS : Sl .i32 w v zs) (hn : zs.length ≤ 1000000) :
    Calls Try.prog 15 #[.pointer (some ⟨b, 0, none⟩), v] w fun e w' => e = .returned (.bool (decide (srt clsP zs = zs))) ∧ Below w.heap.size w w' := by
  have HB := hid hB
  obtain ⟨ao, cap, rfl, hS⟩ := hS
  have HS := hid hS
  have HI2 : Hid (SdI w b zs ao cap w.heap.size (w.heap.size + 1) (w.heap.size + 1 + 1) (w.heap.size + 1 + 1 + 1 + 1) (w.heap.size + 1 + 1 + 1) [] (((((w.alloc (.cells #[.pointer (some ⟨b, 0, none⟩)] 23)).alloc (.cells #[.slice ao zs.length cap] 22)).alloc (.cells #[.bool false] 4)).alloc (.cells #[.pointer (some ⟨b, 0, none⟩)] 23)).alloc (.cells #[.slice ao zs.length cap] 22))) := by
    refine ⟨((((((Below.refl _ _).alloc (Nat.le_refl _) _).alloc (by simp) _).alloc (by simp; omega) _).alloc (by simp; omega) _).alloc (by simp; omega) _), ((((Bx.new w _ _).alloc _).alloc _).alloc _).alloc _, ?_, ?_, ?_, ?_, trivial⟩
    · have := (((Bx.new (w.alloc (.cells #[.pointer (some ⟨b, 0, none⟩)] 23)) (.slice ao zs.length cap) 22).alloc (.cells #[.bool false] 4)).alloc (.cells #[.pointer (some ⟨b, 0, none⟩)] 23)).alloc (.cells #[.slice ao zs.length cap] 22)
      simpa using this
    · have := ((Bx.new ((w.alloc (.cells #[.pointer (some ⟨b, 0, none⟩)] 23)).alloc (.cells #[.slice ao zs.length cap] 22)) (.bool false) 4).alloc (.cells #[.pointer (some ⟨b, 0, none⟩)] 23)).alloc (.cells #[.slice ao zs.length cap] 22)
      simpa using this
    · have := Bx.new ((((w.alloc (.cells #[.pointer (some ⟨b, 0, none⟩)] 23)).alloc (.cells #[.slice ao zs.length cap] 22)).alloc (.cells #[.bool false] 4)).alloc (.cells #[.pointer (some ⟨b, 0, none⟩)] 23)) (.slice ao zs.length cap) 22
      simpa using this
    · have := (Bx.new (((w.alloc (.cells #[.pointer (some ⟨b, 0, none⟩)] 23)).alloc (.cells #[.slice ao zs.length cap] 22)).alloc (.cells #[.bool false] 4)) (.pointer (some ⟨b, 0, none⟩)) 23).alloc (.cells #[.slice ao zs.length cap] 22)
      simpa using this
  clear hB hS
  refine (callsIn_wide (n := 6)).1 ?_
  refine callsIn_of_wp_marks Try.func15 rfl trivial ?_ rfl
  simp only [Try.ntmps15, List.size_toArray, List.length_cons, List.length_nil, Nat.reduceAdd, Nat.reduceSub, Array.replicate_succ, Array.replicate_zero, List.push_toArray, List.append_toArray, List.nil_append, List.cons_append]
  gi_wp2_with (first | (refine ⟨trivial, ?_⟩; gi_at_call 38; refine (callsIn_wide.2 (runs_any _ _ _ _ _)).mono ?_; rintro e w' ⟨rfl, rfl⟩))
  obtain ⟨W0, hW0⟩ : ∃ W0, W0 = (((((w.alloc (.cells #[.pointer (some ⟨b, 0, none⟩)] 23)).alloc (.cells #[.slice ao zs.length cap] 22)).alloc (.cells #[.bool false] 4)).alloc (.cells #[.pointer (some ⟨b, 0, none⟩)] 23)).alloc (.cells #[.slice ao zs.length cap] 22)) := ⟨_, rfl⟩
  rw [← hW0] at HI2 ⊢
  have hT := runs1_tells 5 b ao cap (w.heap.size + 1 + 1 + 1 + 1) (w.heap.size + 1 + 1 + 1) (by omega) zs hn W0
  have hz0 : w.heap.size ≤ W0.heap.size := HI2.out.bel.size
  clear hW0
  refine wpIn_told2 rfl (by omega) (gf := 65) (lb := #[.pointer (some ⟨w.heap.size + 1 + 1 + 1 + 1, 0, none⟩), .pointer (some ⟨w.heap.size + 1 + 1 + 1, 0, none⟩)]) rfl trivial (enters_of Try.func65 (by kernel_rfl) rfl) hT (fun _ => rfl)
    (SdI w b zs ao cap w.heap.size (w.heap.size + 1) (w.heap.size + 1 + 1) (w.heap.size + 1 + 1 + 1 + 1) (w.heap.size + 1 + 1 + 1)) (SdX w zs (w.heap.size + 1 + 1)) (fun pre A B h hk => h.keep hk hz0) (fun pre A B h hk => h.keep hk hz0) (fun pre A h => h.ne HB.out HS.out) HI2.out
    (fun x => { tmps := #[.pointer (some ⟨b, 0, none⟩), .slice ao zs.length cap, .pointer (some ⟨w.heap.size, 0, none⟩), .pointer (some ⟨w.heap.size + 1, 0, none⟩), .pointer (some ⟨w.heap.size + 1 + 1, 0, none⟩), .int .i64 (x.1 : Int), .int .i64 (x.2 : Int), .pointer (some ⟨b, 0, none⟩), .slice ao zs.length cap, .func (.func 65) #[] #[.pointer (some ⟨w.heap.size + 1 + 1 + 1 + 1, 0, none⟩), .pointer (some ⟨w.heap.size + 1 + 1 + 1, 0, none⟩)], .int .i64 (x.1 : Int), .int .i64 (x.2 : Int), undef, undef, undef, undef, undef, undef, undef, undef], defers := [] }) ?assign ?body ?done ?stop
  case assign =>
    intro l x W K hK
    have e : (#[10, 11].zip (toldR x)).foldl (fun (t : Array Value) (p : Nat × Value) => t.setIfInBounds p.1 p.2) #[.pointer (some ⟨b, 0, none⟩), .slice ao zs.length cap, .pointer (some ⟨w.heap.size, 0, none⟩), .pointer (some ⟨w.heap.size + 1, 0, none⟩), .pointer (some ⟨w.heap.size + 1 + 1, 0, none⟩), undef, undef, .pointer (some ⟨b, 0, none⟩), .slice ao zs.length cap, .func (.func 65) #[] #[.pointer (some ⟨w.heap.size + 1 + 1 + 1 + 1, 0, none⟩), .pointer (some ⟨w.heap.size + 1 + 1 + 1, 0, none⟩)], undef, undef, undef, undef, undef, undef, undef, undef, undef, undef] = #[.pointer (some ⟨b, 0, none⟩), .slice ao zs.length cap, .pointer (some ⟨w.heap.size, 0, none⟩), .pointer (some ⟨w.heap.size + 1, 0, none⟩), .pointer (some ⟨w.heap.size + 1 + 1, 0, none⟩), undef, undef, .pointer (some ⟨b, 0, none⟩), .slice ao zs.length cap, .func (.func 65) #[] #[.pointer (some ⟨w.heap.size + 1 + 1 + 1 + 1, 0, none⟩), .pointer (some ⟨w.heap.size + 1 + 1 + 1, 0, none⟩)], .int .i64 (x.1 : Int), .int .i64 (x.2 : Int), undef, undef, undef, undef, undef, undef, undef, undef] := by simp [toldR]
    rw [e]
    gi_wp2
    exact hK
  case body =>
    rintro l pre ⟨f, t⟩ W hI hR
    clear hT
    have hID : SdI w b zs ao cap w.heap.size (w.heap.size + 1) (w.heap.size + 1 + 1) (w.heap.size + 1 + 1 + 1 + 1) (w.heap.size + 1 + 1 + 1) pre W.drew := hI.keep (Kc.of_below ((Below.refl _ _).drew)) (Nat.le_refl _)
    have q1 : f < t := hR.2.1
    have q2 : t ≤ zs.length := hR.2.2.1
    have q3 := HS.out.fits
    obtain ⟨g, off, rfl, hrun⟩ := hID.run HB.out hn HS.out hR
    have HRun := hid (hrun _ _ rfl rfl)
    have c3 := hID.b3.cell
    have c2 := hID.b2.cell
    have c3a : ∀ o, (W.drew.alloc o).cell? ⟨w.heap.size + 1, 0, none⟩ = some (.slice (some ⟨g, off, none⟩) zs.length cap) := fun o => (hID.b3.alloc o).cell
    have c3b : ∀ o, (W.alloc o).drew.cell? ⟨w.heap.size + 1, 0, none⟩ = some (.slice (some ⟨g, off, none⟩) zs.length cap) := fun o => c3a o
    have hmx : Try.prog.follows .mixedOrders = true := by kernel_rfl
    have hcc : t - f ≤ cap - f := by omega
    have hkd : ∀ C X, KeepsFrom C W.drew X → KeepsFrom C W X := fun C X h => ⟨h.size, h.same⟩
    clear hID hI hR HI2 hrun
    gi_wp2_with fail
    refine region_round (F := Fence.wide) l hmx (by kernel_rfl) ?_
    refine wpAnyIn_take (i := 1) (v := .int .i64 (f : Int)) rfl rfl (by kernel_rfl) (by kernel_rfl) (by kernel_rfl) (fun _ _ _ h => h) ⟨Or.inl ⟨by rfl, by (intro w; go_simp)⟩, fun _ => rfl⟩ ?_
    refine wpAnyIn_take (i := 2) (v := .int .i64 (t : Int)) rfl rfl (by kernel_rfl) (by kernel_rfl) (by kernel_rfl) (fun _ _ _ h => h) ⟨Or.inl ⟨by rfl, by (intro w; go_simp)⟩, fun _ => rfl⟩ ?_
    refine wpAnyIn_ready (rs := [0, 4]) (by kernel_rfl) (by simp) ?_
    refine AllReadyIn.cons rfl (fun K hK => ?_) ?_
    · go_simp
      refine hK _ _ ?_
      clear hK K
      refine wpAnyIn_take (i := 3) (v := .slice (some ⟨g, off + f, none⟩) (t - f) (cap - f)) rfl rfl (by kernel_rfl) (by kernel_rfl) (by kernel_rfl) (fun _ _ _ h => h) ⟨Or.inl ⟨by rfl, by (intro w; go_simp; rw [if_pos (by omega), if_pos (by omega), if_neg (by omega)])⟩, fun _ => rfl⟩ ?_
      refine wpAnyIn_ready (rs := [4]) (by kernel_rfl) (by simp) ?_
      refine AllReadyIn.cons rfl (fun K hK => ?_) ?_
      · go_simp
        refine hK _ _ ?_
        clear hK K
        refine wpAnyIn_ready (rs := [5]) (by kernel_rfl) (by simp) ?_
        refine AllReadyIn.cons rfl (fun K hK => ?_) ?_
        · go_simp
          gi_wp2_with (first | (refine ⟨trivial, ?_⟩; gi_at_call 40; refine (callsIn_wide.2 (byc_any _ _)).mono ?_; rintro e W3 ⟨rfl, rfl⟩))
          try (refine hK _ _ ?_; clear hK K)
          refine wpAnyIn_ready (rs := [6]) (by kernel_rfl) (by simp) ?_
          refine AllReadyIn.cons rfl (fun K hK => ?_) AllReadyIn.nil
          go_simp
          gi_wp2_with (first | (refine ⟨trivial, ?_⟩; gi_at_call 42; refine (callsIn_wide.2 (HRun.out _ hcc)).mono ?_; rintro e W4 ⟨r, rfl, hend⟩; have HEnd := hid hend; clear hend))
          try (refine hK _ _ ?_; clear hK K)
          refine wpAnyIn_take (i := 7) (v := .bool (!r)) rfl rfl (by kernel_rfl) (by kernel_rfl) (by kernel_rfl) (fun _ _ _ h => h) ⟨Or.inl ⟨by rfl, by (intro w; go_simp)⟩, fun _ => rfl⟩ ?_
          refine wpAnyIn_done (by kernel_rfl) ?_ _
          cases r with
          | true =>
            gi_wp2_with fail
            exact ⟨hkd _ _ (HEnd.out.1 _), HEnd.out.2.1 (by first | rfl | trivial)⟩
          | false =>
            have hx := HEnd.out.2.2 rfl
            have cx := hx.2.1.cell
            have fx := hx.2.1.frozen
            have HX := hid (And.intro (hkd _ _ (HEnd.out.1 W0.heap.size)) hx)
            clear hx HEnd
            gi_wp2_with fail
            exact ⟨HX.out.1.trans ((KeepsOthers.setCell _ _ _).from _), HX.out.2.1.setCell (p := ⟨w.heap.size + 1 + 1, 0, none⟩) (by show _ ≤ w.heap.size + 1 + 1; omega) _, HX.out.2.2.1.set _, HX.out.2.2.2⟩
        exact AllReadyIn.nil
      exact AllReadyIn.nil
    refine AllReadyIn.cons rfl (fun K hK => ?_) ?_
    · go_simp
      refine hK _ _ ?_
      clear hK K
      refine wpAnyIn_ready (rs := [0, 5]) (by kernel_rfl) (by simp) ?_
      refine AllReadyIn.cons rfl (fun K hK => ?_) ?_
      · go_simp
        refine hK _ _ ?_
        clear hK K
        refine wpAnyIn_take (i := 3) (v := .slice (some ⟨g, off + f, none⟩) (t - f) (cap - f)) rfl rfl (by kernel_rfl) (by kernel_rfl) (by kernel_rfl) (fun _ _ _ h => h) ⟨Or.inl ⟨by rfl, by (intro w; go_simp; rw [if_pos (by omega), if_pos (by omega), if_neg (by omega)])⟩, fun _ => rfl⟩ ?_
        refine wpAnyIn_ready (rs := [5]) (by kernel_rfl) (by simp) ?_
        refine AllReadyIn.cons rfl (fun K hK => ?_) ?_
        · go_simp
          gi_wp2_with (first | (refine ⟨trivial, ?_⟩; gi_at_call 40; refine (callsIn_wide.2 (byc_any _ _)).mono ?_; rintro e W3 ⟨rfl, rfl⟩))
          try (refine hK _ _ ?_; clear hK K)
          refine wpAnyIn_ready (rs := [6]) (by kernel_rfl) (by simp) ?_
          refine AllReadyIn.cons rfl (fun K hK => ?_) AllReadyIn.nil
          go_simp
          gi_wp2_with (first | (refine ⟨trivial, ?_⟩; gi_at_call 42; refine (callsIn_wide.2 (HRun.out _ hcc)).mono ?_; rintro e W4 ⟨r, rfl, hend⟩; have HEnd := hid hend; clear hend))
          try (refine hK _ _ ?_; clear hK K)
          refine wpAnyIn_take (i := 7) (v := .bool (!r)) rfl rfl (by kernel_rfl) (by kernel_rfl) (by kernel_rfl) (fun _ _ _ h => h) ⟨Or.inl ⟨by rfl, by (intro w; go_simp)⟩, fun _ => rfl⟩ ?_
          refine wpAnyIn_done (by kernel_rfl) ?_ _
          cases r with
          | true =>
            gi_wp2_with fail
            exact ⟨hkd _ _ (HEnd.out.1 _), HEnd.out.2.1 (by first | rfl | trivial)⟩
          | false =>
            have hx := HEnd.out.2.2 rfl
            have cx := hx.2.1.cell
            have fx := hx.2.1.frozen
            have HX := hid (And.intro (hkd _ _ (HEnd.out.1 W0.heap.size)) hx)
            clear hx HEnd
            gi_wp2_with fail
            exact ⟨HX.out.1.trans ((KeepsOthers.setCell _ _ _).from _), HX.out.2.1.setCell (p := ⟨w.heap.size + 1 + 1, 0, none⟩) (by show _ ≤ w.heap.size + 1 + 1; omega) _, HX.out.2.2.1.set _, HX.out.2.2.2⟩
        exact AllReadyIn.nil
      refine AllReadyIn.cons rfl (fun K hK => ?_) ?_
      · go_simp
        gi_wp2_with (first | (refine ⟨trivial, ?_⟩; gi_at_call 40; refine (callsIn_wide.2 (byc_any _ _)).mono ?_; rintro e W3 ⟨rfl, rfl⟩))
        try (refine hK _ _ ?_; clear hK K)
        refine wpAnyIn_ready (rs := [0]) (by kernel_rfl) (by simp) ?_
        refine AllReadyIn.cons rfl (fun K hK => ?_) ?_
        · go_simp
          refine hK _ _ ?_
          clear hK K
          refine wpAnyIn_take (i := 3) (v := .slice (some ⟨g, off + f, none⟩) (t - f) (cap - f)) rfl rfl (by kernel_rfl) (by kernel_rfl) (by kernel_rfl) (fun _ _ _ h => h) ⟨Or.inl ⟨by rfl, by (intro w; go_simp; rw [if_pos (by omega), if_pos (by omega), if_neg (by omega)])⟩, fun _ => rfl⟩ ?_
          refine wpAnyIn_ready (rs := [6]) (by kernel_rfl) (by simp) ?_
          refine AllReadyIn.cons rfl (fun K hK => ?_) AllReadyIn.nil
          go_simp
          gi_wp2_with (first | (refine ⟨trivial, ?_⟩; gi_at_call 42; refine (callsIn_wide.2 (HRun.out _ hcc)).mono ?_; rintro e W4 ⟨r, rfl, hend⟩; have HEnd := hid hend; clear hend))
          try (refine hK _ _ ?_; clear hK K)
          refine wpAnyIn_take (i := 7) (v := .bool (!r)) rfl rfl (by kernel_rfl) (by kernel_rfl) (by kernel_rfl) (fun _ _ _ h => h) ⟨Or.inl ⟨by rfl, by (intro w; go_simp)⟩, fun _ => rfl⟩ ?_
          refine wpAnyIn_done (by kernel_rfl) ?_ _
          cases r with
          | true =>
            gi_wp2_with fail
            exact ⟨hkd _ _ (HEnd.out.1 _), HEnd.out.2.1 (by first | rfl | trivial)⟩
          | false =>
            have hx := HEnd.out.2.2 rfl
            have cx := hx.2.1.cell
            have fx := hx.2.1.frozen
            have HX := hid (And.intro (hkd _ _ (HEnd.out.1 W0.heap.size)) hx)
            clear hx HEnd
            gi_wp2_with fail
            exact ⟨HX.out.1.trans ((KeepsOthers.setCell _ _ _).from _), HX.out.2.1.setCell (p := ⟨w.heap.size + 1 + 1, 0, none⟩) (by show _ ≤ w.heap.size + 1 + 1; omega) _, HX.out.2.2.1.set _, HX.out.2.2.2⟩
        exact AllReadyIn.nil
      exact AllReadyIn.nil
    exact AllReadyIn.nil
  case done =>
    rintro D xs W hD hS hI hK
    clear hT
    have c4 := hI.b4.cell
    have f4 := hI.b4.frozen
    have HA := hid (all_ord hS hI.ord)
    have hDo : D ≠ w.heap.size + 1 + 1 := by
      intro e
      have h4 : W.heap[w.heap.size + 1 + 1]? = _ := hI.b4
      rw [e, h4] at hK
      cases hK
    have hK1 : (W.setCell ⟨w.heap.size + 1 + 1, 0, none⟩ (.bool true)).heap[D]? = some (.deferred (some [])) := (Below.heap_setCell _ _ _ _ hDo).trans hK
    have hkc : Kc W0.heap.size (W.setCell ⟨w.heap.size + 1 + 1, 0, none⟩ (.bool true)) ((W.setCell ⟨w.heap.size + 1 + 1, 0, none⟩ (.bool true)).putObj D (.deferred none)) := Kc.grown (grownBy_putObj' _ D (.deferred none)) (fun r e => by cases e; exact ⟨hD, _, hK1, rfl⟩)
    have HE : Hid (((W.setCell ⟨w.heap.size + 1 + 1, 0, none⟩ (.bool true)).putObj D (.deferred none)).cell? ⟨w.heap.size + 1 + 1, 0, none⟩ = some (.bool true) ∧ Below w.heap.size w ((W.setCell ⟨w.heap.size + 1 + 1, 0, none⟩ (.bool true)).putObj D (.deferred none))) :=
      ⟨(hkc.bx (hI.b4.set _)).cell, hkc.below (hI.bel.setCell (p := ⟨w.heap.size + 1 + 1, 0, none⟩) (by show _ ≤ w.heap.size + 1 + 1; omega) _) hz0 (Nat.le_refl _)⟩
    have HK1 := hid hK1
    clear hI hS hkc hK1
    gi_wp2
    refine ⟨by simp, .inl ⟨_, _, rfl, run_takeDeferred HK1.out, ?_⟩⟩
    refine ⟨.bool true, ?_, ?_⟩
    · simp [results, Try.results15, go_sem, HE.out.1]
    · exact ⟨ret_bool (decide_eq_true HA.out.srt_eq).symm, HE.out.2⟩
  case stop =>
    intro D xs W hD h hK
    clear hT
    have hkc : Kc W0.heap.size W (W.putObj D (.deferred none)) := Kc.grown (grownBy_putObj' _ D (.deferred none)) (fun r e => by cases e; exact ⟨hD, _, hK, rfl⟩)
    have HE : Hid ((W.putObj D (.deferred none)).cell? ⟨w.heap.size + 1 + 1, 0, none⟩ = some (.bool false) ∧ Below w.heap.size w (W.putObj D (.deferred none)) ∧ ¬ Ord clsP zs) := ⟨(hkc.bx h.2.1).cell, hkc.below h.1 hz0 (Nat.le_refl _), h.2.2⟩
    clear h hkc
    gi_wp2
    refine ⟨by simp, .inl ⟨_, _, rfl, run_takeDeferred hK, ?_⟩⟩
    refine ⟨.bool false, ?_, ?_⟩
    · simp [results, Try.results15, go_sem, HE.out.1]
    · exact ⟨ret_bool (decide_eq_false (fun e => HE.out.2.2 ((ord_iff clsP zs).2 e))).symm, HE.out.2.1⟩
end Od
end Go.Proofs.Ytpegpagdhaijjaa
