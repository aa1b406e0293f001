import Derived.Test.YtpegpagdhaijjaaOrd13
namespace Go.Proofs.Ytpegpagdhaijjaa
namespace Od
open Go.RowKit

/-- No class is less than the one ahead. -/
def NoD (c : Int → Int) (X : List Int) : Prop := ∀ i (h : i + 1 < X.length), ¬ c X[i + 1] < c X[i]
theorem NoD.ord {c : Int → Int} : ∀ {X : List Int}, NoD c X → Ord c X
  | [], _ => trivial
  | [_], _ => trivial
  | x :: y :: l, h => ⟨by have := h 0 (by simp); simp at this; omega, NoD.ord (fun i hi => by have := h (i + 1) (by simp at hi ⊢; omega); simpa using this)⟩
theorem ord_at {c : Int → Int} : ∀ {X : List Int}, Ord c X → ∀ i (h : i + 1 < X.length), ¬ (0 < c X[i + 1] ∧ c X[i + 1] < c X[i])
  | [], _, i, h => by simp at h
  | [_], _, i, h => by simp at h
  | x :: y :: l, ho, 0, h => ho.1
  | x :: y :: l, ho, i + 1, h => by
    have := ord_at ho.2 i (by simp at h ⊢; omega)
    simpa using this

/-- The function that holds two classes against each other, where nothing is turned. -/
structure CmpB (c : Int → Int) (G : World → Prop) (cb : Array Value) : Prop where
  call : ∀ W x y, G W → Calls Try.prog 67 (#[.int .i32 x, .int .i32 y] ++ cb) W fun e w' => e = .returned (.int .i64 (cmpI (c x) (c y))) ∧ Below W.heap.size W w'
  keep : ∀ W W', G W → Below W.heap.size W W' → G W'
/-- What is told of order. -/
def SfR (c : Int → Int) (X : List Int) (e : Ending) : Prop := ∃ r, e = .returned (.bool r) ∧ (r = true ↔ NoD c X)

set_option maxRecDepth 100000 in
set_option maxHeartbeats 2000000 in
theorem isf_any {G : World → Prop} {cb : Array Value} {c : Int → Int} (w : World) (ao : Option Addr) (n cap : Nat) (hC : CmpB c G cb) (X : List Int) (hX : X.length = n) (hS : SlP .i32 w ao cap X) (hG : G w) (hn : n ≤ 1000000) :
    Calls Try.prog 42 #[.slice ao n cap, .func (.func 67) #[] cb] w fun e w' => SfR c X e ∧ Below w.heap.size w w' := by
  have HC := hid hC
  have HX := hid hX
  have HS := hid hS
  have H0 : Hid (G w ∧ Ok w.heap.size w w) := ⟨hG, Ok.start w⟩
  clear hC hX hS hG
  by_cases h0 : n = 0
  · subst h0
    go_enter Try.func42, Try.ntmps42
    go_wp2_with fail
    refine wp_loop_rounds 1 ?_
    rw [rounds_succ]
    go_wp2_with fail
    go_ret
    exact ⟨⟨true, rfl, fun _ i h => by have := HX.out; omega, fun _ => rfl⟩, Below.refl _ _⟩
  · have e1 : IntKind.i64.wrap ((n : Int) - 1) = ((n - 1 : Nat) : Int) := by rw [IntKind.wrap_i64]; omega
    go_enter Try.func42, Try.ntmps42
    go_wp2_with fail
    go_loopg [5] n (fun g vi wr => ∃ k : Nat, vi = .int .i64 k ∧ k + 1 ≤ n ∧ k ≤ g ∧ Hid ((∀ i (h : i + 1 < X.length), k ≤ i → ¬ c X[i + 1] < c X[i]) ∧ G wr ∧ Ok w.heap.size w wr))
    case atStart => exact ⟨n - 1, by first | rfl | (congr 1; omega), by omega, by omega, fun i h1 h2 => by have := HX.out; omega, H0.out⟩
    case round =>
      obtain ⟨k, rfl, hk, hg, H⟩ := hrel
      clear e1 H0
      by_cases hk0 : k = 0
      · subst hk0
        go_wp2_with fail
        go_ret
        exact ⟨⟨true, rfl, fun _ i h => by have := H.out.1 i h (Nat.zero_le _); omega, fun _ => rfl⟩, H.out.2.2.1⟩
      · obtain ⟨kp, rfl⟩ : ∃ kp, k = kp + 1 := ⟨k - 1, by omega⟩
        have hlx : kp + 1 < X.length := by have := HX.out; omega
        obtain ⟨b, off, rfl, hb, c1⟩ := HS.out.at_ (kp + 1) hlx
        obtain ⟨b', off', e', _, c2⟩ := HS.out.at_ kp (by omega)
        simp at e'
        obtain ⟨rfl, rfl⟩ := e'
        have d1 := (H.out.2.2.1.cell (p := ⟨b, off + (kp + 1), none⟩) hb).trans c1
        have d2 := (H.out.2.2.1.cell (p := ⟨b, off + kp, none⟩) hb).trans c2
        have HCell : Hid (∀ A, Ok w.heap.size w A → A.cell? ⟨b, off + (kp + 1), none⟩ = some (.int .i32 X[kp + 1]) ∧ A.cell? ⟨b, off + kp, none⟩ = some (.int .i32 X[kp])) := fun A hA => ⟨(hA.1.cell (p := ⟨b, off + (kp + 1), none⟩) hb).trans c1, (hA.1.cell (p := ⟨b, off + kp, none⟩) hb).trans c2⟩
        have HD : Hid (G wr.drew ∧ Ok w.heap.size w wr.drew) := ⟨HC.out.keep _ _ H.out.2.1 ((Below.refl _ _).drew), H.out.2.2.step ((Below.refl _ _).drew)⟩
        have HP : Hid ((¬ c X[kp + 1] < c X[kp] → ∀ i (h : i + 1 < X.length), kp ≤ i → ¬ c X[i + 1] < c X[i]) ∧ (c X[kp + 1] < c X[kp] → ¬ NoD c X)) := by
          refine ⟨fun hc i hi hki => ?_, fun hc hN => hN kp hlx hc⟩
          rcases Nat.lt_or_ge kp i with h1 | h1
          · exact H.out.1 i hi h1
          · have : i = kp := by omega
            subst this; exact hc
        clear c1 c2
        have HV := hid (fun W (h : G W) => HC.out.call W X[kp + 1] X[kp] h)
        have hcm := cmpI_lt (c X[kp + 1]) (c X[kp])
        rw [← hcm] at HP
        clear hcm
        generalize cmpI (c X[kp + 1]) (c X[kp]) = v at *
        generalize X[kp + 1] = x at *
        generalize X[kp] = y at *
        have jz : (kp : Int) + 1 < (n : Int) := by omega
        have jz1 : (kp : Int) < (n : Int) := by omega
        have hwp : IntKind.i64.wrap (kp : Int) = (kp : Int) := by rw [IntKind.wrap_i64]; omega
        have p0 : (0 : Int) ≤ (kp : Int) + 1 := by omega
        have e0 : ((kp : Int) + 1).toNat = kp + 1 := by omega
        have hpos : (0 : Int) < (kp : Int) + 1 := by omega
        by_cases hv : v < 0
        · have HN := hid (HP.out.2 hv)
          go_wp2_with fail
          go_region_held3 (fun w' => w'.cell? ⟨b, off + (kp + 1), none⟩ = some (.int .i32 x) ∧ w'.cell? ⟨b, off + kp, none⟩ = some (.int .i32 y))
            (first | exact HCell.out _ HD.out.2 | exact ⟨d1, d2⟩)
            (first | (go_at_call 67; refine (HV.out _ HD.out.1).mono ?_; rintro e w' ⟨rfl, hb'⟩; replace HD := hid (And.intro (HC.out.keep _ _ HD.out.1 hb') (HD.out.2.step hb')); clear hb'))
          go_wp2_with fail
          go_ret
          exact ⟨⟨false, rfl, fun h => (by cases h), fun h => absurd h HN.out⟩, HD.out.2.1⟩
        · have HN := hid (HP.out.1 hv)
          have hv2 : decide (v < 0) = false := decide_eq_false hv
          go_wp2_with fail
          go_region_held3 (fun w' => w'.cell? ⟨b, off + (kp + 1), none⟩ = some (.int .i32 x) ∧ w'.cell? ⟨b, off + kp, none⟩ = some (.int .i32 y))
            (first | exact HCell.out _ HD.out.2 | exact ⟨d1, d2⟩)
            (first | (go_at_call 67; refine (HV.out _ HD.out.1).mono ?_; rintro e w' ⟨rfl, hb'⟩; replace HD := hid (And.intro (HC.out.keep _ _ HD.out.1 hb') (HD.out.2.step hb')); clear hb'))
          go_wp2_with fail
          go_roundg kp
          case measure => omega
          case rel => exact ⟨kp, by first | rfl | go_num | (congr 1; omega), by omega, Nat.le_refl _, HN.out, HD.out⟩

/-! ### Sorted -/

/-- What Sorted keeps. -/
structure SdI (w : World) (b : Nat) (zs : List Int) (ao : Option Addr) (cap o2 o3 o4 pl pb : Nat) (pre : List (Nat × Nat)) (W : World) : Prop where
  bel : Below w.heap.size w W
  b2 : Bx W o2 (.pointer (some ⟨b, 0, none⟩)) 23
  b3 : Bx W o3 (.slice ao zs.length cap) 22
  b4 : Bx W o4 (.bool false) 4
  bl : Bx W pl (.slice ao zs.length cap) 22
  bb : Bx W pb (.pointer (some ⟨b, 0, none⟩)) 23
  ord : Ord clsP (zs.take (endOf pre))
/-- And what it keeps where it stops. -/
def SdX (w : World) (zs : List Int) (o4 : Nat) (_ : List (Nat × Nat)) (W : World) : Prop := Below w.heap.size w W ∧ Bx W o4 (.bool false) 4 ∧ ¬ Ord clsP zs
theorem SdI.keep {w : World} {b : Nat} {zs : List Int} {ao : Option Addr} {cap o2 o3 o4 pl pb N : Nat} {pre : List (Nat × Nat)} {A B : World} (h : SdI w b zs ao cap o2 o3 o4 pl pb pre A) (hk : Kc N A B) (hN : w.heap.size ≤ N) : SdI w b zs ao cap o2 o3 o4 pl pb pre B :=
  ⟨hk.below h.bel hN (Nat.le_refl _), hk.bx h.b2, hk.bx h.b3, hk.bx h.b4, hk.bx h.bl, hk.bx h.bb, h.ord⟩
theorem SdX.keep {w : World} {zs : List Int} {o4 N : Nat} {pre : List (Nat × Nat)} {A B : World} (h : SdX w zs o4 pre A) (hk : Kc N A B) (hN : w.heap.size ≤ N) : SdX w zs o4 pre B := ⟨hk.below h.1 hN (Nat.le_refl _), hk.bx h.2.1, h.2.2⟩
theorem SdI.ne {w : World} {b : Nat} {zs : List Int} {ao : Option Addr} {cap o2 o3 o4 pl pb : Nat} {pre : List (Nat × Nat)} {A : World} (hB : Bk w b) (hS : SlP .i32 w ao cap zs) (h : SdI w b zs ao cap o2 o3 o4 pl pb pre A) : NeR b ao cap pl pb zs pre A :=
  ⟨hB.step h.bel, h.bl, h.bb, fun i hi _ => by
    obtain ⟨g, off, e, hg, hc⟩ := hS.at_ i hi
    exact ⟨g, off, e, (h.bel.cell (p := ⟨g, off + i, none⟩) hg).trans hc⟩⟩
theorem next_ord {zs : List Int} {pre : List (Nat × Nat)} {f t : Nat} (hx : NextR clsP zs pre (f, t)) (ho : Ord clsP (zs.take (endOf pre))) : (NoD clsP ((zs.take t).drop f) → Ord clsP (zs.take (endOf (pre ++ [(f, t)])))) ∧ (¬ NoD clsP ((zs.take t).drop f) → ¬ Ord clsP zs) := by
  obtain ⟨x1, x2, x3, x4, x5, x6⟩ := hx
  simp only at x1 x2 x3 x4 x5 x6
  refine ⟨fun hN => ?_, fun hN hO => hN (fun i hi => ?_)⟩
  · rw [endOf_snoc]
    show Ord clsP (zs.take t)
    have e1 : zs.take t = zs.take (endOf pre) ++ (zs.take f).drop (endOf pre) ++ (zs.take t).drop f := by
      have e2 : zs.take (endOf pre) ++ (zs.take f).drop (endOf pre) = zs.take f := by
        conv => rhs; rw [← List.take_append_drop (endOf pre) (zs.take f)]
        rw [List.take_take, Nat.min_eq_left x1]
      rw [e2]
      conv => lhs; rw [← List.take_append_drop f (zs.take t)]
      rw [List.take_take, Nat.min_eq_left (by omega)]
    rw [e1]
    refine ord_glue (fun x => (cls_bd x).1) ho (fun z hz => ?_) hN.ord ?_
    · obtain ⟨i, hi, a1, a2, rfl⟩ := mem_seg hz
      exact x4 i hi a1 a2
    · rcases x6 with h | h
      · right; rw [h]; rfl
      · left
        intro e
        have := congrArg List.length e
        rw [List.length_drop, List.length_take] at this
        simp at this; omega
  · have hl := hi
    rw [List.length_drop, List.length_take] at hl
    have := ord_at hO (f + i) (by omega)
    have hp := x5 (f + i + 1) (by omega) (by omega) (by omega)
    have h0 := (cls_bd (zs[f + i + 1]'(by omega))).1
    intro hlt
    rw [List.getElem_drop, List.getElem_drop, List.getElem_take, List.getElem_take] at hlt
    exact this ⟨by omega, hlt⟩
theorem all_ord {zs : List Int} {xs : List (Nat × Nat)} (hx : AllR clsP zs xs) (ho : Ord clsP (zs.take (endOf xs))) : Ord clsP zs := by
  have hu : Upto clsP zs (endOf xs) zs := ⟨.refl _, rfl, ho⟩
  have := hu.fin hx
  exact (ord_iff clsP zs).2 this.symm
end Od
end Go.Proofs.Ytpegpagdhaijjaa
