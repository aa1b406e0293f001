import Derived.Test.YtclcmkklonnalaaOrd20x22
import Derived.Deep.RegionWith
import Derived.Deep.Cut
namespace Go.Proofs.Ytclcmkklonnalaa
namespace Od
open Go.RowKit

/-- A function that asks something of a rune. -/
structure PrdB (p : Int → Bool) (G : World → Prop) (g : Nat) (cb : Array Value) : Prop where
  call : ∀ W x, G W → Calls Try.prog g (#[.int .i32 x] ++ cb) W fun e w' => e = .returned (.bool (p x)) ∧ Below W.heap.size W w'
  keep : ∀ W W', G W → Below W.heap.size W W' → G W'

/-- The first of some; -1. -/
def idxP (p : Int → Bool) : Nat → List Int → Int
  | _, [] => -1
  | k, x :: l => if p x = true then k else idxP p (k + 1) l
theorem idxP_any (p : Int → Bool) : ∀ (l : List Int) (k : Nat), (0 ≤ idxP p k l) ↔ l.any p = true
  | [], _ => by simp [idxP]
  | x :: l, k => by
    simp only [idxP, List.any_cons]
    by_cases h : p x = true
    · rw [if_pos h, h]; simp
    · rw [if_neg h, idxP_any p l (k + 1)]
      simp at h
      simp [h]

set_option maxRecDepth 100000 in
set_option maxHeartbeats 2000000 in
theorem idxf_any {G : World → Prop} {cb : Array Value} {p : Int → Bool} (w : World) (ao : Option Addr) (n cap : Nat) (hC : PrdB p G 44 cb) (X : List Int) (hX : X.length = n) (hS : SlP .i32 w ao cap X) (hG : G w) (hn : n ≤ 1000000) :
    Calls Try.prog 70 #[.slice ao n cap, .func (.func 44) #[] cb] w fun e w' => e = .returned (.int .i64 (idxP p 0 X)) ∧ Below w.heap.size w w' := by
  have HC := hid hC
  have HX := hid hX
  have HS := hid hS
  have H0 : Hid (G w ∧ Ok w.heap.size w w) := ⟨hG, Ok.start w⟩
  clear hC hX hS hG
  go_enter Try.func70, Try.ntmps70
  go_wp2_with fail
  go_loopg [8] n (fun g vi wr => ∃ k : Nat, vi = .int .i64 k ∧ k ≤ n ∧ g = n - k ∧ Hid (idxP p 0 X = idxP p k (X.drop k) ∧ G wr ∧ Ok w.heap.size w wr))
  case atStart => exact ⟨0, rfl, Nat.zero_le _, rfl, rfl, H0.out⟩
  case round =>
    obtain ⟨k, rfl, hk, hg, H⟩ := hrel
    have HG := hid hg
    clear hg H0
    by_cases hlt : k < n
    · have hlx : k < X.length := by have := HX.out; omega
      obtain ⟨b, off, rfl, hb, c1⟩ := HS.out.at_ k hlx
      have d1 := (H.out.2.2.1.cell (p := ⟨b, off + k, none⟩) hb).trans c1
      have HE : Hid (idxP p 0 X = if p X[k] = true then (k : Int) else idxP p (k + 1) (X.drop (k + 1))) := by
        show _ = _
        rw [H.out.1, List.drop_eq_getElem_cons hlx]; rfl
      have HV := hid (HC.out.call wr X[k] H.out.2.1)
      clear c1
      generalize X[k] = x at *
      have z1 : (k : Int) < (n : Int) := by omega
      by_cases hp : p x = true
      · have HR : Hid (idxP p 0 X = (k : Int)) := by show _ = _; rw [HE.out, if_pos hp]
        rw [hp] at HV
        clear hp HE
        go_wp2_with fail
        refine HV.out.mono ?_
        rintro e w' ⟨rfl, hb'⟩
        have hok := hid (H.out.2.2.step hb')
        clear hb'
        go_wp2_with fail
        go_ret
        exact ⟨ret_int HR.out.symm, hok.out.1⟩
      · have HR : Hid (idxP p 0 X = idxP p (k + 1) (X.drop (k + 1))) := by show _ = _; rw [HE.out, if_neg hp]
        have hp2 : p x = false := by simpa using hp
        rw [hp2] at HV
        clear hp hp2 HE
        go_wp2_with fail
        refine HV.out.mono ?_
        rintro e w' ⟨rfl, hb'⟩
        have HN : Hid (G w' ∧ Ok w.heap.size w w') := ⟨HC.out.keep _ _ H.out.2.1 hb', H.out.2.2.step hb'⟩
        clear hb'
        go_wp2_with fail
        go_roundg (n - (k + 1))
        case measure => rw [HG.out]; omega
        case rel => exact ⟨k + 1, by go_num, by omega, rfl, HR.out, HN.out⟩
    · have e : X.drop k = [] := List.drop_eq_nil_of_le (by have := HX.out; omega)
      have HR : Hid (idxP p 0 X = -1) := by show _ = _; rw [H.out.1, e]; rfl
      go_wp2_with fail
      go_ret
      exact ⟨ret_int HR.out.symm, H.out.2.2.1⟩

set_option maxHeartbeats 1000000 in
theorem contf_any {G : World → Prop} {cb : Array Value} {p : Int → Bool} (w : World) (ao : Option Addr) (n cap : Nat) (hC : PrdB p G 44 cb) (X : List Int) (hX : X.length = n) (hS : SlP .i32 w ao cap X) (hG : G w) (hn : n ≤ 1000000) :
    Calls Try.prog 43 #[.slice ao n cap, .func (.func 44) #[] cb] w fun e w' => e = .returned (.bool (X.any p)) ∧ Below w.heap.size w w' := by
  have HI := hid (idxf_any w ao n cap hC X hX hS hG hn)
  have HE : Hid (X.any p = decide (0 ≤ idxP p 0 X)) := by
    show _ = _
    rw [Bool.eq_iff_iff, decide_eq_true_eq]
    exact (idxP_any p X 0).symm
  clear hC hX hS hG
  generalize idxP p 0 X = v at *
  go_enter Try.func43, Try.ntmps43
  go_wp2_with fail
  refine HI.out.mono ?_
  rintro e w' ⟨rfl, hb⟩
  go_wp2_with fail
  go_ret
  refine ⟨ret_bool ?_, hb⟩
  rw [HE.out]
  try rfl

set_option maxHeartbeats 2000000 in
theorem blk1_any {W : World} {b pb po : Nat} {own : Int} (hB : Bk W b) (hx : Bx W pb (.pointer (some ⟨b, 0, none⟩)) 23) (ho : Bx W po (.int .i64 own) 3) (x : Int) :
    Calls Try.prog 44 #[.int .i32 x, .pointer (some ⟨pb, 0, none⟩), .pointer (some ⟨po, 0, none⟩)] W fun e w' => e = .returned (.bool (decide (own ≤ clsP x))) ∧ Below W.heap.size W w' := by
  have HD : Hid (Ok W.heap.size W W.drew ∧ Bk W.drew b ∧ Bx W.drew pb (.pointer (some ⟨b, 0, none⟩)) 23 ∧ Bx W.drew po (.int .i64 own) 3) := ⟨(Ok.start W).step ((Below.refl _ _).drew), hB.step ((Below.refl _ _).drew), hx.step ((Below.refl _ _).drew), ho.step ((Below.refl _ _).drew)⟩
  have HC := hid (fun w (h : Bk w b) => cls_any h x)
  have hstep : Hid (∀ A B, (Ok W.heap.size W A ∧ Bk A b ∧ Bx A pb (.pointer (some ⟨b, 0, none⟩)) 23 ∧ Bx A po (.int .i64 own) 3) → Below A.heap.size A B → (Ok W.heap.size W B ∧ Bk B b ∧ Bx B pb (.pointer (some ⟨b, 0, none⟩)) 23 ∧ Bx B po (.int .i64 own) 3)) := fun A B h hb => ⟨h.1.step hb, h.2.1.step hb, h.2.2.1.step hb, h.2.2.2.step hb⟩
  have H0 := hid hx
  have H1 := hid ho
  clear hB hx ho
  generalize clsP x = cx at *
  go_enter Try.func44, Try.ntmps44
  go_wp2_with fail
  go_region_held3 (fun w' => w'.cell? ⟨pb, 0, none⟩ = some (.pointer (some ⟨b, 0, none⟩)) ∧ w'.cell? ⟨po, 0, none⟩ = some (.int .i64 own))
    (first | exact ⟨HD.out.2.2.1.cell, HD.out.2.2.2.cell⟩ | exact ⟨H0.out.cell, H1.out.cell⟩)
    (first | (go_at_call 22; refine (HC.out _ HD.out.2.1).mono ?_; rintro e w' ⟨rfl, hb'⟩; replace HD := hid (hstep.out _ _ HD.out hb'); clear hb'))
  all_goals go_wp2_with fail
  all_goals go_ret
  all_goals exact ⟨rfl, HD.out.1.1⟩

set_option maxRecDepth 100000 in
set_option maxHeartbeats 2000000 in
theorem start_any {w : World} {b : Nat} {ao : Option Addr} {cap len : Nat} {zs : List Int} (hB : Bk w b) (hL : zs.length = len) (hS : SlP .i32 w ao cap zs) (hn : len ≤ 1000000) (i : Nat) (hi : i < len) :
    Calls Try.prog 18 #[.pointer (some ⟨b, 0, none⟩), .slice ao len cap, .int .i64 (i : Int)] w fun e w' => e = .returned (.int .i64 (startN clsP zs i)) ∧ Below w.heap.size w w' := by
  have HS := hid hS
  have HL := hid hL
  have H0 : Hid (Bk w b ∧ Ok w.heap.size w w) := ⟨hB, Ok.start w⟩
  clear hB hS hL
  have z1 : ¬ (i : Int) < 0 := by omega
  have z2 : ¬ (len : Int) ≤ (i : Int) := by omega
  have e1 : IntKind.i64.wrap ((i : Int) - 1) = (i : Int) - 1 := by rw [IntKind.wrap_i64]; omega
  go_enter Try.func18, Try.ntmps18
  go_wp2_with fail
  go_loopg [7] i (fun g va wr => ∃ k : Nat, va = .int .i64 ((k : Int) - 1) ∧ k ≤ i ∧ g = k ∧ Hid (startN clsP zs i = startN clsP zs k ∧ Bk wr b ∧ Ok w.heap.size w wr))
  case atStart => exact ⟨i, rfl, Nat.le_refl _, rfl, rfl, H0.out⟩
  case round =>
    obtain ⟨k, rfl, hk, hg, H⟩ := hrel
    have HG := hid hg
    clear hg H0 e1
    cases k with
    | zero =>
      have HR : Hid (startN clsP zs i = -1) := H.out.1
      go_wp2_with fail
      go_ret
      exact ⟨ret_int (by rw [HR.out]; rfl), H.out.2.2.1⟩
    | succ kp =>
      have hlx : kp < zs.length := by have := HL.out; omega
      obtain ⟨g, off, rfl, hgl, c1⟩ := HS.out.at_ kp hlx
      have d1 := (H.out.2.2.1.cell (p := ⟨g, off + kp, none⟩) hgl).trans c1
      have HE : Hid (startN clsP zs i = if clsP zs[kp] = 0 then (kp : Int) else startN clsP zs kp) := by
        show _ = _
        rw [H.out.1, startN, getD_at hlx]
      have HV := hid (cls_any H.out.2.1 zs[kp])
      clear c1
      generalize zs[kp] = x at *
      have ek : ((kp + 1 : Nat) : Int) - 1 = (kp : Int) := by omega
      rw [ek]
      have q1 : (0 : Int) ≤ (kp : Int) := by omega
      have q2 : (kp : Int) < (len : Int) := by omega
      have q3 : IntKind.i64.wrap ((kp : Int) - 1) = (kp : Int) - 1 := by rw [IntKind.wrap_i64]; omega
      by_cases hc : clsP x = 0
      · have HR : Hid (startN clsP zs i = (kp : Int)) := by show _ = _; rw [HE.out, if_pos hc]
        rw [hc] at HV
        clear hc HE
        go_wp2_with fail
        refine HV.out.mono ?_
        rintro e w' ⟨rfl, hb'⟩
        have hok := hid (H.out.2.2.step hb')
        clear hb'
        go_wp2_with fail
        go_ret
        exact ⟨ret_int HR.out.symm, hok.out.1⟩
      · have HR : Hid (startN clsP zs i = startN clsP zs kp) := by show _ = _; rw [HE.out, if_neg hc]
        have hc2 : (clsP x != 0) = true := by simpa using hc
        generalize clsP x = cx at *
        go_wp2_with fail
        refine HV.out.mono ?_
        rintro e w' ⟨rfl, hb'⟩
        have HN : Hid (Bk w' b ∧ Ok w.heap.size w w') := ⟨H.out.2.1.step hb', H.out.2.2.step hb'⟩
        clear hb'
        go_wp2_with fail
        go_roundg kp
        case measure => rw [HG.out]; omega
        case rel => exact ⟨kp, by first | rfl | (congr 1; omega), by omega, rfl, HR.out, HN.out⟩
end Od
end Go.Proofs.Ytclcmkklonnalaa

namespace Go.Proofs.Ytclcmkklonnalaa
namespace Od
open Go.RowKit

/-- What stands behind the region that asks the class of a rune and boxes it. -/
def AtO (w : World) (b pb : Nat) (own : Int) (v : Value) (W : World) : Prop :=
  ∃ po, v = .pointer (some ⟨po, 0, none⟩) ∧ Bx W po (.int .i64 own) 3 ∧ Bx W pb (.pointer (some ⟨b, 0, none⟩)) 23 ∧ Bk W b ∧ Ok w.heap.size w W
theorem atO_late {w : World} {b pb : Nat} {own : Int} {A W : World} (hB : Bk A b) (hx : Bx A pb (.pointer (some ⟨b, 0, none⟩)) 23) (hok : Ok w.heap.size w A) (hb : Below A.heap.size A W) : AtO w b pb own (.pointer (some ⟨W.heap.size, 0, none⟩)) (W.alloc (.cells #[.int .i64 own] 3)) :=
  ⟨_, rfl, Bx.new _ _ _, (hx.step hb).alloc _, (hB.step hb).step ((Below.refl _ _).alloc (Nat.le_refl _) _), (hok.step hb).alloc⟩
theorem atO_early {w : World} {b pb po : Nat} {own : Int} {A W : World} (hx : Bx A pb (.pointer (some ⟨b, 0, none⟩)) 23) (ho : Bx A po (.int .i64 0) 3) (hok : Ok w.heap.size w A) (hb : Below A.heap.size A W) (hne : pb ≠ po) (hlo : w.heap.size ≤ po) (hBo : ∀ X, Below po A X → Bk X b) : AtO w b pb own (.pointer (some ⟨po, 0, none⟩)) (W.setCell ⟨po, 0, none⟩ (.int .i64 own)) := by
  have hpo := ho.lt
  refine ⟨po, rfl, (ho.step hb).set _, (Below.heap_setCell _ _ _ _ hne).trans (hx.step hb), hBo _ ((hb.mono (Nat.le_of_lt hpo)).setCell (p := ⟨po, 0, none⟩) (Nat.le_refl _) _), ?_⟩
  have h1 := hok.step hb
  exact ⟨h1.1.setCell (p := ⟨po, 0, none⟩) hlo _, by simpa [World.setCell] using h1.2⟩

set_option maxRecDepth 100000 in
set_option maxHeartbeats 4000000 in
theorem blocked_any {w : World} {b : Nat} {ao : Option Addr} {cap len : Nat} {zs : List Int} (hB : Bk w b) (hL : zs.length = len) (hS : SlP .i32 w ao cap zs) (hn : len ≤ 1000000) (i : Nat) (hi : i < len) :
    Calls Try.prog 19 #[.pointer (some ⟨b, 0, none⟩), .slice ao len cap, .int .i64 (i : Int)] w fun e w' => e = .returned (.bool (blockedP clsP zs i)) ∧ Below w.heap.size w w' := by
  have hb0 : Below w.heap.size w (w.alloc (.cells #[.pointer (some ⟨b, 0, none⟩)] 23)) := (Below.refl _ _).alloc (Nat.le_refl _) _
  have HSt := hid (start_any (hB.step hb0) hL (hS.step hb0) hn i hi)
  have HB := hid hB
  have HS := hid hS
  have HX := hid (Bx.new w (.pointer (some ⟨b, 0, none⟩)) 23)
  have HO := hid ((Ok.start w).step hb0)
  have HL := hid hL
  have hbd := startN_bd clsP zs i
  have HE : Hid (blockedP clsP zs i = (decide (0 ≤ startN clsP zs i) && ((zs.take i).drop ((startN clsP zs i).toNat + 1)).any (fun r => decide (clsP (zs.getD i 0) ≤ clsP r)))) := rfl
  clear hb0 hB hS hL
  generalize startN clsP zs i = s at *
  by_cases hs : s < 0
  · have HR : Hid (blockedP clsP zs i = false) := by show _ = _; rw [HE.out, decide_eq_false (by omega), Bool.false_and]
    go_enter Try.func19, Try.ntmps19
    go_wp2_with fail
    refine HSt.out.mono ?_
    rintro e w1 ⟨rfl, hb1⟩
    have HO1 := hid (HO.out.step hb1)
    clear hb1
    go_wp2_with fail
    go_ret
    exact ⟨ret_bool HR.out.symm, HO1.out.1⟩
  · obtain ⟨sn, rfl⟩ : ∃ sn : Nat, s = (sn : Int) := ⟨s.toNat, by omega⟩
    have hsi : sn < i := by omega
    have hil : i < zs.length := by have := HL.out; omega
    have hsn : ¬ (sn : Int) < 0 := by omega
    go_enter Try.func19, Try.ntmps19
    go_wp2_with fail
    refine HSt.out.mono ?_
    rintro e w1 ⟨rfl, hb1⟩
    have HO1 := hid (HO.out.step hb1)
    have HX1 := hid (HX.out.step hb1)
    clear hb1 HSt
    have HR : Hid (blockedP clsP zs i = ((zs.take i).drop (sn + 1)).any (fun r => decide (clsP zs[i] ≤ clsP r))) := by
      show _ = _
      rw [HE.out, decide_eq_true (by omega), Bool.true_and, getD_at hil]; rfl
    clear HE
    obtain ⟨g, off, rfl, hg, ci⟩ := HS.out.at_ i hil
    have HCi : Hid (∀ A, Ok w.heap.size w A → A.cell? ⟨g, off + i, none⟩ = some (.int .i32 zs[i])) := fun A hA => (hA.1.cell (p := ⟨g, off + i, none⟩) hg).trans ci
    have HCl := hid (fun A (h : Bk A b) => cls_any h zs[i])
    clear ci
    generalize zs[i] = x at *
    generalize clsP x = own at *
    have z1 : (i : Int) < (len : Int) := by omega
    have pbn : w.heap.size < w1.heap.size := HX1.out.lt
    have HBw : Hid (∀ A, Below w.heap.size w A → Bk A b) := fun A hA => HB.out.step hA
    have c1 := HX1.out.cell
    have c2 := HCi.out w1 HO1.out
    have HOd : Hid (Ok w.heap.size w w1.drew) := HO1.out.step ((Below.refl _ _).drew)
    have HXd : Hid (Bx w1.drew w.heap.size (.pointer (some ⟨b, 0, none⟩)) 23) := HX1.out.step ((Below.refl _ _).drew)
    have HOa : Hid (Ok w.heap.size w (w1.alloc (.cells #[.int .i64 0] 3)).drew) := HO1.out.alloc.step ((Below.refl _ _).drew)
    have HXa : Hid (Bx (w1.alloc (.cells #[.int .i64 0] 3)).drew w.heap.size (.pointer (some ⟨b, 0, none⟩)) 23) := (HX1.out.alloc _).step ((Below.refl _ _).drew)
    have HPa : Hid (Bx (w1.alloc (.cells #[.int .i64 0] 3)).drew w1.heap.size (.int .i64 0) 3) := (Bx.new w1 _ _).step ((Below.refl _ _).drew)
    have c1a : (w1.alloc (.cells #[.int .i64 0] 3)).cell? ⟨w.heap.size, 0, none⟩ = some (.pointer (some ⟨b, 0, none⟩)) := HXa.out.cell
    have c2a : (w1.alloc (.cells #[.int .i64 0] 3)).cell? ⟨g, off + i, none⟩ = some (.int .i32 x) := HCi.out _ HO1.out.alloc
    have hcap := HS.out.fits
    go_wp2_with fail
    go_cut [8] from 15 to 20 (fun v8 wx => AtO w b w.heap.size own v8 wx)
    case first =>
      go_region_with (first | (go_at_call 22; first | (refine (HCl.out _ (HBw.out _ HOd.out.1)).mono ?_; rintro e W3 ⟨rfl, hl3⟩) | (refine (HCl.out _ (HBw.out _ HOa.out.1)).mono ?_; rintro e W3 ⟨rfl, hb3⟩; have p1 := (HPa.out.step hb3).cell; have p2 := (HPa.out.step hb3).frozen)))
      all_goals (try go_wp2_with fail)
      all_goals go_meet
      all_goals first | exact atO_late (HBw.out _ HOd.out.1) HXd.out HOd.out hl3 | exact atO_early HXa.out HPa.out HOa.out hb3 (by omega) (by omega) (fun X hX => HBw.out X (HOa.out.1.trans (hX.mono (by omega))))
    case rest =>
      obtain ⟨po, rfl, ho, hx, hB2, hok2⟩ := hcut
      have HCf : Hid (∀ cap', i - (sn + 1) ≤ cap' → Calls Try.prog 43 #[.slice (some ⟨g, off + (sn + 1), none⟩) (i - (sn + 1)) cap', .func (.func 44) #[] #[.pointer (some ⟨w.heap.size, 0, none⟩), .pointer (some ⟨po, 0, none⟩)]] wc fun e w' => e = .returned (.bool (((zs.take i).drop (sn + 1)).any (fun r => decide (own ≤ clsP r)))) ∧ Below wc.heap.size wc w') := fun cap' hc' => by
        have hlX : ((zs.take i).drop (sn + 1)).length = i - (sn + 1) := by rw [List.length_drop, List.length_take]; omega
        have hC : PrdB (fun r => decide (own ≤ clsP r)) (fun A => Bk A b ∧ Bx A w.heap.size (.pointer (some ⟨b, 0, none⟩)) 23 ∧ Bx A po (.int .i64 own) 3) 44 #[.pointer (some ⟨w.heap.size, 0, none⟩), .pointer (some ⟨po, 0, none⟩)] := ⟨fun A x hA => blk1_any hA.1 hA.2.1 hA.2.2 x, fun A A' hA hb => ⟨hA.1.step hb, hA.2.1.step hb, hA.2.2.step hb⟩⟩
        have hsl : SlP .i32 wc (some ⟨g, off + (sn + 1), none⟩) cap' ((zs.take i).drop (sn + 1)) := by
          refine ⟨by omega, fun e => (by cases e), fun j hj => ?_⟩
          obtain ⟨g', off', e, hg', hc⟩ := HS.out.at_ (sn + 1 + j) (by omega)
          have e3 : g = g' ∧ off = off' := by
            have := Option.some.inj e
            injection this with a1 a2 _
            exact ⟨a1, a2⟩
          obtain ⟨rfl, rfl⟩ := e3
          have hsz := hok2.1.size
          refine ⟨g, off + (sn + 1), rfl, Nat.lt_of_lt_of_le hg' hsz, ?_⟩
          have e4 : ((zs.take i).drop (sn + 1))[j] = zs[sn + 1 + j]'(by omega) := by rw [List.getElem_drop, List.getElem_take]
          rw [e4, Nat.add_assoc, ← hc]
          exact hok2.1.cell (p := ⟨g, off + (sn + 1 + j), none⟩) hg'
        exact contf_any wc (some ⟨g, off + (sn + 1), none⟩) (i - (sn + 1)) cap' hC _ hlX hsl ⟨hB2, hx, ho⟩ (by omega)
      have HO2 := hid hok2
      clear ho hx hB2 hok2
      have q1 : (sn : Int) + 1 ≤ (i : Int) := by omega
      have q2 : (i : Int) ≤ (cap : Int) := by omega
      have q3 : ((sn : Int) + 1).toNat = sn + 1 := by omega
      have q4 : i - (sn + 1) ≤ cap - (sn + 1) := by omega
      have q5 : ¬ cap = sn + 1 := by omega
      have q6 : (0 : Int) ≤ (sn : Int) + 1 := by omega
      have q7 : sn + 1 ≤ i := by omega
      have q8 : i ≤ cap := by omega
      go_wp2_with (go_at_call 43; refine (HCf.out _ q4).mono ?_; rintro e w' ⟨rfl, hb'⟩; have HO3 := hid (HO2.out.step hb'); clear hb')
      go_ret
      exact ⟨ret_bool HR.out.symm, HO3.out.1⟩

set_option maxHeartbeats 1000000 in
theorem start_out (b : Nat) (ao : Option Addr) (cap len : Nat) (i : Int) (h : i < 0 ∨ (len : Int) ≤ i) (w : World) :
    Calls Try.prog 18 #[.pointer (some ⟨b, 0, none⟩), .slice ao len cap, .int .i64 i] w fun e w' => e = .returned (.int .i64 (-1)) ∧ w' = w := by
  by_cases h1 : i < 0
  · clear h
    go_enter Try.func18, Try.ntmps18
    go_wp2_with fail
    go_ret
    exact ⟨rfl, rfl⟩
  · have h2 : (len : Int) ≤ i := by omega
    clear h
    go_enter Try.func18, Try.ntmps18
    go_wp2_with fail
    go_ret
    exact ⟨rfl, rfl⟩
set_option maxHeartbeats 1000000 in
theorem blocked_out (b : Nat) (ao : Option Addr) (cap len : Nat) (i : Int) (h : i < 0 ∨ (len : Int) ≤ i) (w : World) :
    Calls Try.prog 19 #[.pointer (some ⟨b, 0, none⟩), .slice ao len cap, .int .i64 i] w fun e w' => e = .returned (.bool false) ∧ Below w.heap.size w w' := by
  have HS := hid (fun w => start_out b ao cap len i h w)
  clear h
  go_enter Try.func19, Try.ntmps19
  go_wp2_with (go_at_call 18; refine (HS.out _).mono ?_; rintro e w1 ⟨rfl, rfl⟩)
  go_ret
  exact ⟨rfl, (Below.refl _ _).alloc (Nat.le_refl _) _⟩
end Od
end Go.Proofs.Ytclcmkklonnalaa
