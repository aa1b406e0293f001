import Derived.Test.YtbamhbfncddieaaNfc1x2
import Derived.Test.YtbamhbfncddieaaOrd14x19
namespace Go.Proofs.Ytbamhbfncddieaa
namespace Nf
open Go.RowKit Od Pr Ha

theorem hid {p : Prop} (h : p) : Hid p := h
/-- A former, and its book and pairs. -/
structure Fm (w : World) (f b p d u s : Nat) : Prop where
  blk : w.heap[f]? = some (.cells #[.pointer (some ⟨b, 0, none⟩), .pointer (some ⟨p, 0, none⟩)] 49)
  bk : Bk w b
  pw : PW w p d u s allP 395
theorem Fm.step {w w' : World} {f b p d u s : Nat} (h : Fm w f b p d u s) (hb : Below w.heap.size w w') : Fm w' f b p d u s :=
  ⟨(hb.block f (Array.getElem?_eq_some_iff.1 h.blk).1).trans h.blk, h.bk.step hb, h.pw.step hb⟩
theorem Fm.cells {w : World} {f b p d u s : Nat} (h : Fm w f b p d u s) : w.cell? ⟨f, 0, none⟩ = some (.pointer (some ⟨b, 0, none⟩)) ∧ w.cell? ⟨f, 1, none⟩ = some (.pointer (some ⟨p, 0, none⟩)) := by
  have := h.blk
  simp [World.cell?, this]

theorem apF_len : ∀ (n : Nat) (r : Int), (apF n r).length ≤ 3 * 2 ^ n
  | 0, _ => by simp [apF]
  | n + 1, r => by
    have h1 := apF_len n (dnP r).1
    have h2 := apF_len n (dnP r).2.1
    have h3 : 1 ≤ 2 ^ n := Nat.one_le_two_pow
    simp only [apF, Nat.pow_succ]
    split
    · unfold sylL
      split <;> simp <;> omega
    · split
      · omega
      · split
        · rw [List.length_append]; omega
        · simp; omega
theorem dn_I32 (r : Int) : I32 (dnP r).1 ∧ I32 (dnP r).2.1 := by
  obtain ⟨e1, e2, e3⟩ := dn_d r
  obtain ⟨h1, h2, _⟩ := d_bd r
  rw [← e1, ← e2]
  exact ⟨h1, h2⟩
theorem apF_I32 : ∀ (n : Nat) (r : Int), I32 r → ∀ y ∈ apF n r, I32 y
  | 0, r, h, y, hy => by simp [apF] at hy; subst hy; exact h
  | n + 1, r, h, y, hy => by
    simp only [apF] at hy
    split at hy
    · rename_i hs
      have := sylL_bd hs y hy
      exact ⟨by omega, by omega⟩
    · split at hy
      · exact apF_I32 n _ (dn_I32 r).1 y hy
      · split at hy
        · rcases List.mem_append.1 hy with hy | hy
          · exact apF_I32 n _ (dn_I32 r).1 y hy
          · exact apF_I32 n _ (dn_I32 r).2 y hy
        · simp at hy; subst hy; exact h

/-- append(s, x, y) of two runes, s of the call's own. -/
theorem app_two {ops : Array Oper} {rest : List Oper} {o : Oper} {a : Act} {Q : Exit → Act → World → Prop} (hgd : o.guard = none) (s x : Operand)
    (ho : o.op = .call { callee := .builtin .append, args := #[s, x], argTypes := #[22, 22] }) (W : World) (B n : Nat) (v : Value) (xs : List Value) (r q : Int) (hs : a.eval s = v) (N : Nat) (hN : W.heap.size = N) (hx : a.eval x = .slice (some ⟨N, 0, none⟩) 2 2)
    (hown : W.ownsRow B 21 1 v n xs) (hn : n ≤ 1000000000) (hB : B ≤ W.heap.size)
    (h : ∀ v' w', w'.ownsRow B 21 1 v' (n + 2) (xs ++ [.int .i32 r, .int .i32 q]) → Below B W w' → wpList Try.prog ops Q rest (a.put o.dst v') w') :
    wpList Try.prog ops Q (o :: rest) a (W.alloc (.cells #[.int .i32 r, .int .i32 q] 21)) := by
  subst hN
  obtain ⟨i0, hi, hz0, hz1, hz2⟩ := info_parts Od.Try.info_i32
  refine wpList_append_own_at _ hgd s x 22 ho B 21 i0 (.int .i32 0) 1 4 Try.underlying22 hi hz0 hz1 hz2 rfl (by decide) v n xs hs (hown.alloc _) ⟨W.heap.size, 0, none⟩ 2 2 [.int .i32 r, .int .i32 q] hx rfl
    (World.news_of_block (heap_new W _)) (fun u hu => by simp at hu; rcases hu with rfl | rfl <;> rfl) (by unfold maxLen; omega) (by omega) (by simp; omega) (fun v' w' h1 h2 _ _ => h v' w' h1 ?_)
  exact ((Below.refl _ _).alloc hB _).trans (Od.below_of_grown h2 B (by simp; omega) (fun k e => (hown.lt k e).1))

/-- A row of runes of the call's own, above what the former holds. -/
def Ow (w0 w : World) (B : Nat) (v : Value) (xs : List Int) : Prop := w.ownsRow B 21 1 v xs.length (ivs .i32 xs) ∧ Below w0.heap.size w0 w ∧ w0.heap.size ≤ B ∧ B ≤ w.heap.size
theorem Ow.put {w0 w w' : World} {B : Nat} {v v' : Value} {xs ys : List Int} (h : Ow w0 w B v xs) (h1 : w'.ownsRow B 21 1 v' (xs.length + ys.length) (ivs .i32 xs ++ ivs .i32 ys)) (h2 : Below B w w') : Ow w0 w' B v' (xs ++ ys) := by
  refine ⟨?_, h.2.1.trans (h2.mono h.2.2.1), h.2.2.1, Nat.le_trans h.2.2.2 h2.size⟩
  rw [List.length_append, show ivs .i32 (xs ++ ys) = ivs .i32 xs ++ ivs .i32 ys by simp [ivs]]
  exact h1
theorem Ow.step {w0 w w' : World} {B : Nat} {v : Value} {xs : List Int} (h : Ow w0 w B v xs) (hb : Below w.heap.size w w') : Ow w0 w' B v xs :=
  ⟨Uc.own_below h.1 hb, h.2.1.trans (hb.mono h.2.1.size), h.2.2.1, Nat.le_trans h.2.2.2 hb.size⟩

set_option maxRecDepth 100000 in
set_option maxHeartbeats 4000000 in
theorem apart_any {w0 : World} {f b p d u s : Nat} (hF : Fm w0 f b p d u s) : ∀ (n : Nat) (r : Int), okF n r = true → I32 r → ∀ (w : World) (B : Nat) (v : Value) (xs : List Int), Ow w0 w B v xs → xs.length + 3 * 2 ^ n ≤ 1000000000 →
    Calls Try.prog 79 #[.pointer (some ⟨f, 0, none⟩), v, .int .i32 r] w fun e w' => ∃ v', e = .returned v' ∧ Ow w0 w' B v' (xs ++ apF n r) ∧ Below B w w'
  | 0, _, h, _, _, _, _, _, _, _ => by cases h
  | n + 1, r, hok, hr, w, B, v, xs, hO, hlen => by
    have ih := apart_any hF n
    have HF := hid hF
    have HIH := hid ih
    have HO := hid hO
    have h2n : 1 ≤ 2 ^ n := Nat.one_le_two_pow
    rw [Nat.pow_succ] at hlen
    have hxl : xs.length ≤ 999999994 := by omega
    simp only [okF] at hok
    by_cases hs : sylB r = true
    · obtain ⟨hs1, hs2⟩ := syl_bd hs
      have HE : Hid (apF (n + 1) r = sylL r) := by show _ = _; simp only [apF]; rw [if_pos hs]
      have HSp := hid (fun w => split_yes r w hs1 hs2)
      have HSL : Hid (sylL r = if talI r = 0 then [ledI r, vowI r] else [ledI r, vowI r, talI r]) := rfl
      clear ih hF hO hok hs hs1 hs2
      generalize ledI r = a at *
      generalize vowI r = c at *
      generalize talI r = t at *
      by_cases ht : t = 0
      · have HS0 : Hid (sylL r = [a, c]) := by show _ = _; rw [HSL.out, if_pos ht]
        clear HSL
        subst ht
        go_enter Try.func79, Try.ntmps79
        go_wp2_with (first | (go_at_call 96; refine (HSp.out _).mono ?_; rintro e w1 ⟨rfl, rfl⟩) | (at_builtin; refine app_two rfl (.tmp 22) (.tmp 25) rfl w1 B xs.length v (ivs .i32 xs) a c rfl w1.heap.size rfl rfl HO.out.1 (by omega) HO.out.2.2.2 (fun v' w' h1 h2 => ?_)))
        go_ret
        have hP := HO.out.put (ys := [a, c]) h1 h2
        exact ⟨_, rfl, by rw [HE.out, HS0.out]; exact hP, h2⟩
      · have htz : (t != 0) = true := by simpa using ht
        have HTn := hid ht
        go_enter Try.func79, Try.ntmps79
        go_wp2_with (first | (go_at_call 96; refine (HSp.out _).mono ?_; rintro e w1 ⟨rfl, rfl⟩) | (at_builtin; refine app_two rfl (.tmp 22) (.tmp 25) rfl w1 B xs.length v (ivs .i32 xs) a c rfl w1.heap.size rfl rfl HO.out.1 (by omega) HO.out.2.2.2 (fun v' w' h1 h2 => ?_); have HP := hid (HO.out.put (ys := [a, c]) h1 h2); have HB2 := hid h2; clear h1 h2) | (at_builtin; refine app_i32 rfl (.tmp 29) (.tmp 31) rfl w' B (xs ++ [a, c]).length v' (ivs .i32 (xs ++ [a, c])) t rfl w'.heap.size rfl rfl HP.out.1 (by rw [List.length_append]; simp; omega) HP.out.2.2.2 (fun v2 w2 h1 h2 => ?_)))
        go_ret
        have hP := HP.out.put (ys := [t]) h1 h2
        refine ⟨_, rfl, ?_, HB2.out.trans h2⟩
        rw [HE.out, HSL.out, if_neg HTn.out]
        simpa using hP
    · have HSp := hid (fun w => split_no r w (fun h => hs (decide_eq_true (by omega))))
      rw [if_neg hs] at hok
      obtain ⟨e1, e2, e3⟩ := dn_d r
      obtain ⟨i1, i2⟩ := dn_I32 r
      have HPw := hid ((hF.step (w' := w) hO.2.1).pw)
      have HDn := hid (down_g HPw.out hr)
      have hcf := (hF.step (w' := w) hO.2.1).cells.2
      rw [e1, e2, e3] at HDn
      have HE : Hid (apF (n + 1) r = if (dnP r).2.2 = 1 then apF n (dnP r).1 else if (dnP r).2.2 = 2 then apF n (dnP r).1 ++ apF n (dnP r).2.1 else [r]) := by show _ = _; simp only [apF]; rw [if_neg hs]
      have hlA := apF_len n (dnP r).1
      clear ih hF hO hs e1 e2 e3
      generalize hy : dnP r = y at *
      obtain ⟨a, c, m⟩ := y
      simp only at hok i1 i2 HDn HE hlA
      clear hy
      by_cases h1 : m = 1
      · subst h1
        have HR : Hid (apF (n + 1) r = apF n a) := by show _ = _; rw [HE.out, if_pos rfl]
        rw [if_pos rfl] at hok
        go_enter Try.func79, Try.ntmps79
        go_wp2_with (first | (go_at_call 96; refine (HSp.out _).mono ?_; rintro e w1 ⟨rfl, rfl⟩) | (go_at_call 97; refine HDn.out.mono ?_; rintro e w1 ⟨rfl, hb1⟩; have HO1 := hid (HO.out.step hb1); have HB1 := hid hb1; clear hb1) | (go_at_call 79; refine (HIH.out a hok i1 w1 B v xs HO1.out (by omega)).mono ?_; rintro e w2 ⟨v2, rfl, h3, h4⟩))
        go_ret
        exact ⟨_, rfl, by rw [HR.out]; exact h3, (HB1.out.mono HO.out.2.2.2).trans h4⟩
      · rw [if_neg h1] at hok
        by_cases h2 : m = 2
        · subst h2
          have HR : Hid (apF (n + 1) r = apF n a ++ apF n c) := by show _ = _; rw [HE.out, if_neg h1, if_pos rfl]
          rw [if_pos rfl, Bool.and_eq_true] at hok
          clear h1
          go_enter Try.func79, Try.ntmps79
          go_wp2_with (first | (go_at_call 96; refine (HSp.out _).mono ?_; rintro e w1 ⟨rfl, rfl⟩) | (go_at_call 97; refine HDn.out.mono ?_; rintro e w1 ⟨rfl, hb1⟩; have HO1 := hid (HO.out.step hb1); have HB1 := hid hb1; clear hb1))
          refine (HIH.out a hok.1 i1 _ B v xs HO1.out (by omega)).mono ?_
          rintro e w2 ⟨v2, rfl, h3, h4⟩
          have HO2 := hid h3
          have HB2 := hid h4
          clear h3 h4
          go_wp2_with fail
          refine (HIH.out c hok.2 i2 _ B v2 (xs ++ apF n a) HO2.out (by rw [List.length_append]; omega)).mono ?_
          rintro e w3 ⟨v3, rfl, h3, h4⟩
          have HO3 := hid h3
          have HB3 := hid h4
          clear h3 h4
          go_wp2_with fail
          go_ret
          exact ⟨_, rfl, by rw [HR.out, ← List.append_assoc]; exact HO3.out, ((HB1.out.mono HO.out.2.2.2).trans HB2.out).trans HB3.out⟩
        · have HR : Hid (apF (n + 1) r = [r]) := by show _ = _; rw [HE.out, if_neg h1, if_neg h2]
          have q1 : (m == 1) = false := by simpa using h1
          have q2 : (m == 2) = false := by simpa using h2
          go_enter Try.func79, Try.ntmps79
          go_wp2_with (first | (go_at_call 96; refine (HSp.out _).mono ?_; rintro e w1 ⟨rfl, rfl⟩) | (go_at_call 97; refine HDn.out.mono ?_; rintro e w1 ⟨rfl, hb1⟩; have HO1 := hid (HO.out.step hb1); have HB1 := hid hb1; clear hb1) | (at_builtin; refine app_i32 rfl (.tmp 60) (.tmp 62) rfl w1 B xs.length v (ivs .i32 xs) r rfl w1.heap.size rfl rfl HO1.out.1 (by omega) HO1.out.2.2.2 (fun v2 w2 h3 h4 => ?_)))
          go_ret
          have hP := HO1.out.put (ys := [r]) h3 h4
          exact ⟨_, rfl, by rw [HR.out]; exact hP, (HB1.out.mono HO.out.2.2.2).trans h4⟩
end Nf
end Go.Proofs.Ytbamhbfncddieaa

namespace Go.Proofs.Ytbamhbfncddieaa
namespace Nf
open Go.RowKit Od Pr Ha

theorem ap5 (x : Int) : apF 5 x = apP x := (apF_succ 5 x (ok5 x)).symm
theorem ap_len (x : Int) : (apP x).length ≤ 96 := by rw [← ap5]; exact apF_len 5 x
theorem flat_len : ∀ l : List Int, (l.flatMap apP).length ≤ 96 * l.length
  | [] => by simp
  | x :: l => by
    have h1 := ap_len x
    have h2 := flat_len l
    rw [List.flatMap_cons, List.length_append, List.length_cons]
    omega

/-- What a starter and a code point make. -/
def mkV (a b : Int) : Int := if mkB a b = true then mkI a b else 0
set_option maxRecDepth 100000 in
set_option maxHeartbeats 2000000 in
theorem together_any {w : World} {f b p d u s : Nat} (hF : Fm w f b p d u s) {x y : Int} (hx : I32 x) (hy : I32 y) :
    Calls Try.prog 78 #[.pointer (some ⟨f, 0, none⟩), .int .i32 x, .int .i32 y] w fun e w' => e = .returned (.tuple #[.int .i32 (mkV x y), .bool (mkB x y)]) ∧ w' = w := by
  have HUp := hid (up_g hF.pw hx hy)
  have hcf := hF.cells.2
  have HM : Hid (mkB x y = (u2 x y || lvB x y || otB x y) ∧ mkI x y = if u2 x y = true then u1 x y else if lvB x y = true then lvI x y else otI x y) := ⟨rfl, rfl⟩
  have HV : Hid (mkV x y = if mkB x y = true then mkI x y else 0) := rfl
  by_cases h1 : u2 x y = true
  · rw [h1] at HUp
    have HR : Hid (mkV x y = u1 x y ∧ mkB x y = true) := by
      have e : mkB x y = true := by rw [HM.out.1, h1]; rfl
      exact ⟨by rw [HV.out, if_pos e, HM.out.2, if_pos h1], e⟩
    clear HM HV hF h1
    generalize u1 x y = z at *
    go_enter Try.func78, Try.ntmps78
    go_wp2_with (go_at_call 94; refine HUp.out.mono ?_; rintro e w1 ⟨rfl, rfl⟩)
    go_ret2
    exact ⟨by rw [HR.out.1, HR.out.2]; rfl, rfl⟩
  · have h1' : u2 x y = false := by simpa using h1
    rw [h1'] at HUp
    have HJ : Hid (∀ W, Calls Try.prog 95 #[.int .i32 x, .int .i32 y] W fun e w' => e = .returned (.tuple #[.int .i32 (mkV x y), .bool (mkB x y)]) ∧ w' = W) := by
      refine hid (fun W => ?_)
      by_cases h2 : lvB x y = true
      · have e : mkB x y = true := by rw [HM.out.1, h1', h2]; rfl
        rw [HV.out, e, if_pos rfl, HM.out.2, if_neg h1, if_pos h2]
        exact join_lv x y W h2
      · by_cases h3 : otB x y = true
        · have e : mkB x y = true := by rw [HM.out.1, h1', h3]; simp
          rw [HV.out, e, if_pos rfl, HM.out.2, if_neg h1, if_neg h2]
          exact join_ot x y W h3
        · have h2' : lvB x y = false := by simpa using h2
          have h3' : otB x y = false := by simpa using h3
          have e : mkB x y = false := by rw [HM.out.1, h1', h2', h3']; rfl
          rw [HV.out, e, if_neg (by simp)]
          exact join_no x y W h2' h3'
    clear HM HV hF h1 h1'
    generalize u1 x y = z at *
    generalize mkV x y = m at *
    generalize mkB x y = q at *
    go_enter Try.func78, Try.ntmps78
    go_wp2_with (first | (go_at_call 94; refine HUp.out.mono ?_; rintro e w1 ⟨rfl, rfl⟩) | (go_at_call 95; refine (HJ.out _).mono ?_; rintro e w2 ⟨rfl, rfl⟩))
    go_ret2
    exact ⟨rfl, rfl⟩

set_option maxRecDepth 100000 in
set_option maxHeartbeats 4000000 in
theorem nfd_any {w : World} {f b p d u s : Nat} (hF : Fm w f b p d u s) {v : Value} {zs : List Int} (hS : Sl .i32 w v zs) (hz : ∀ z ∈ zs, I32 z) (hn : zs.length ≤ 10000) :
    Calls Try.prog 63 #[.pointer (some ⟨f, 0, none⟩), v] w fun e w' => ∃ v', e = .returned v' ∧ Sl .i32 w' v' (nfdP clsP zs) ∧ Below w.heap.size w w' := by
  obtain ⟨ao, cap, rfl, hS⟩ := hS
  have HF := hid hF
  have HS := hid hS
  have HZ := hid hz
  have HL : Hid (∃ len, zs.length = len ∧ len ≤ 10000) := ⟨_, rfl, hn⟩
  generalize hlen : zs.length = len at hn
  have HLn := hid hlen
  clear hS hF hz hlen HL
  go_enter Try.func63, Try.ntmps63
  go_wp2_with fail
  go_loopg [5, 10] len (fun g vo vi wr => ∃ k : Nat, vi = .int .i64 k ∧ k ≤ len ∧ g = len - k ∧ Hid (Ow w wr w.heap.size vo ((zs.take k).flatMap apP)))
  case atStart => exact ⟨0, rfl, Nat.zero_le _, rfl, World.ownsRow_nil _ _ _ _, Below.refl _ _, Nat.le_refl _, Nat.le_refl _⟩
  case round =>
    obtain ⟨k, rfl, hk, hg, H⟩ := hrel
    have HG := hid hg
    clear hg
    by_cases hlt : k < len
    · have hlx : k < zs.length := by rw [HLn.out]; exact hlt
      obtain ⟨bb, off, e0, hb, c1⟩ := HS.out.at_ k hlx
      subst e0
      have d1 := (H.out.2.1.cell (p := ⟨bb, off + k, none⟩) hb).trans c1
      have HE : Hid ((zs.take (k + 1)).flatMap apP = (zs.take k).flatMap apP ++ apF 5 zs[k]) := by
        show _ = _
        rw [List.take_succ_eq_append_getElem hlx, List.flatMap_append, List.flatMap_cons, List.flatMap_nil, List.append_nil, ap5]
      have hle : ((zs.take k).flatMap apP).length + 3 * 2 ^ 5 ≤ 1000000000 := by
        have := flat_len (zs.take k)
        rw [List.length_take] at this
        omega
      have HA := hid (apart_any HF.out 5 zs[k] (ok5 _) (HZ.out _ (List.getElem_mem hlx)) wr w.heap.size _ _ H.out hle)
      clear c1 hle
      generalize zs[k] = x at *
      have z1 : (k : Int) < (len : Int) := by omega
      go_wp2_with (go_at_call 79; refine HA.out.mono ?_; rintro e w2 ⟨v2, rfl, h3, h4⟩)
      have HO2 : Hid (Ow w w2 w.heap.size v2 ((zs.take (k + 1)).flatMap apP)) := by show Ow _ _ _ _ _; rw [HE.out]; exact h3
      clear h3 h4
      go_roundg (len - (k + 1))
      case measure => rw [HG.out]; omega
      case rel => exact ⟨k + 1, by go_num, by omega, rfl, HO2.out⟩
    · have e : k = len := by omega
      subst e
      have HW : Hid (Ow w wr w.heap.size u5 (zs.flatMap apP)) := by
        have := H.out
        rw [← HLn.out, List.take_length] at this
        exact this
      have HSt := hid (sort_any (HF.out.step HW.out.2.1).bk (own_sl HW.out.1) (Nat.le_trans (flat_len zs) (by rw [HLn.out]; omega)))
      have hcf := (HF.out.step HW.out.2.1).cells.1
      go_wp2_with (go_at_call 80; refine HSt.out.mono ?_; rintro e w2 ⟨v2, rfl, h3, h4⟩)
      go_ret
      exact ⟨_, rfl, h3, HW.out.2.1.trans (h4.mono HW.out.2.1.size)⟩
end Nf
end Go.Proofs.Ytbamhbfncddieaa

namespace Go.Proofs.Ytbamhbfncddieaa
namespace Nf
open Go.RowKit Od Pr Ha

theorem mk_I32 (a b : Int) (h : mkB a b = true) : I32 (mkI a b) := by
  unfold mkI
  split
  · exact u_bd a b
  · rename_i h1
    split
    · rename_i h2
      obtain ⟨hs, _⟩ := lv_parts a b h2
      have := syl_bd hs
      exact ⟨by omega, by omega⟩
    · rename_i h2
      unfold mkB at h
      have h3 : otB a b = true := by
        cases hu : u2 a b <;> cases hl : lvB a b <;> simp_all
      obtain ⟨_, _, hs, _⟩ := ot_parts a b h3
      have := syl_bd hs
      exact ⟨by omega, by omega⟩

/-- The last starter's place. -/
def stI (S : CS) : Int := match S.2.1 with
  | none => -1
  | some _ => (S.1.length : Int)
theorem step_zero {S : CS} {r : Int} (h : tryC clsP S r = false) (hc : clsP r = 0) : outC (stepC clsP S r) = outC S ++ [r] ∧ stI (stepC clsP S r) = ((outC S).length : Int) ∧ gr clsP (stepC clsP S r).2.2 = 0 := by
  refine ⟨outC_no clsP S r h, ?_, ?_⟩ <;> (unfold stepC; rw [h]; simp only [Bool.false_eq_true, if_false]; rw [if_pos hc]; rfl)
theorem step_mark {S : CS} {r : Int} (h : tryC clsP S r = false) (hc : clsP r ≠ 0) : outC (stepC clsP S r) = outC S ++ [r] ∧ stI (stepC clsP S r) = stI S ∧ gr clsP (stepC clsP S r).2.2 = if gr clsP S.2.2 < clsP r then clsP r else gr clsP S.2.2 := by
  refine ⟨outC_no clsP S r h, ?_, ?_⟩
  · unfold stepC; rw [h]; simp only [Bool.false_eq_true, if_false]; rw [if_neg hc]; rfl
  · unfold stepC; rw [h]; simp only [Bool.false_eq_true, if_false]; rw [if_neg hc]; exact gr_snoc clsP _ _
theorem step_join {A M : List Int} {x r : Int} (h : tryC clsP (A, some x, M) r = true) : stepC clsP (A, some x, M) r = (A, some (mkI x r), M) := by
  unfold stepC
  rw [if_pos h]
  rfl

/-- What Compose has made so far. -/
def CI (w wr : World) (v : Value) (L : List Int) (k : Nat) : Prop := Ow w wr w.heap.size v L ∧ (∀ y ∈ L, I32 y) ∧ L.length ≤ k
theorem CI.step {w w1 w2 : World} {v : Value} {L : List Int} {k : Nat} (h : CI w w1 v L k) (hb : Below w1.heap.size w1 w2) : CI w w2 v L k := ⟨h.1.step hb, h.2⟩
theorem CI.put {w w1 w2 : World} {v v2 : Value} {L : List Int} {k n : Nat} {r : Int} (h : CI w w1 v L k) (hn : L.length = n) (hr : I32 r) (h3 : w2.ownsRow w.heap.size 21 1 v2 (n + 1) (ivs .i32 L ++ [.int .i32 r])) (h4 : Below w.heap.size w1 w2) : CI w w2 v2 (L ++ [r]) (k + 1) := by
  subst hn
  refine ⟨h.1.put (ys := [r]) h3 h4, fun y hy => ?_, by rw [List.length_append]; have := h.2.2; simp; omega⟩
  rcases List.mem_append.1 hy with hy | hy
  · exact h.2.1 y hy
  · simp at hy; subst hy; exact hr
theorem CI.set {w w1 : World} {g n cp : Nat} {A M : List Int} {k : Nat} {x z : Int} (h : CI w w1 (.slice (some ⟨g, 0, none⟩) n cp) (A ++ [x] ++ M) k) (hn : (A ++ [x] ++ M).length = n) (hz : I32 z) : CI w (w1.setCell ⟨g, A.length, none⟩ (.int .i32 z)) (.slice (some ⟨g, 0, none⟩) n cp) (A ++ [z] ++ M) (k + 1) := by
  have h0 := h.1.1
  rw [hn] at h0
  obtain ⟨h1, h2⟩ := h0.stored A.length (.int .i32 z)
  have e : (ivs .i32 (A ++ [x] ++ M)).set A.length (.int .i32 z) = ivs .i32 (A ++ [z] ++ M) := by simp [ivs]
  have hn2 : (A ++ [z] ++ M).length = n := by rw [← hn]; simp
  rw [e] at h1
  have hb : Below w.heap.size w1 (w1.setCell ⟨g, A.length, none⟩ (.int .i32 z)) := Od.below_of_grown h2 _ h.1.2.2.2 (fun q e => by cases e; exact (h0.lt g rfl).1)
  refine ⟨⟨by rw [hn2]; exact h1, h.1.2.1.trans hb, Nat.le_refl _, Nat.le_trans h.1.2.2.2 hb.size⟩, fun y hy => ?_, ?_⟩
  · by_cases e : y = z
    · subst e; exact hz
    · refine h.2.1 y ?_
      simp at hy ⊢
      rcases hy with hy | hy | hy
      · exact .inl hy
      · exact (e hy).elim
      · exact .inr (.inr hy)
  · have := h.2.2
    simp at this ⊢
    omega
end Nf
end Go.Proofs.Ytbamhbfncddieaa

namespace Go.Proofs.Ytbamhbfncddieaa
namespace Nf
open Go.RowKit Od Pr Ha

theorem gr_nn (M : List Int) : 0 ≤ gr clsP M := (gr_ge clsP M 0).1
theorem comp_take {zs : List Int} {k : Nat} (h : k < zs.length) : (zs.take (k + 1)).foldl (stepC clsP) ([], none, []) = stepC clsP ((zs.take k).foldl (stepC clsP) ([], none, [])) zs[k] := by
  rw [List.take_succ_eq_append_getElem h, List.foldl_append]; rfl
theorem ow_some {w w1 : World} {B : Nat} {v : Value} {L : List Int} (h : Ow w w1 B v L) (hL : 0 < L.length) : ∃ g cp, v = .slice (some ⟨g, 0, none⟩) L.length cp := by
  rcases h.1.2 with ⟨_, h2⟩ | ⟨g, cap, cur, e, _⟩
  · omega
  · exact ⟨g, cap, e⟩
set_option maxRecDepth 100000 in
set_option maxHeartbeats 8000000 in
theorem compose_any {w : World} {f b p d u s : Nat} (hF : Fm w f b p d u s) {v : Value} {zs : List Int} (hS : Sl .i32 w v zs) (hz : ∀ z ∈ zs, I32 z) (hn : zs.length ≤ 1000000) :
    Calls Try.prog 62 #[.pointer (some ⟨f, 0, none⟩), v] w fun e w' => ∃ v', e = .returned v' ∧ Sl .i32 w' v' (compP clsP zs) ∧ Below w.heap.size w w' := by
  obtain ⟨ao, cap, rfl, hS⟩ := hS
  have HF := hid hF
  have HS := hid hS
  have HZ := hid hz
  generalize hlen : zs.length = len at hn
  have HLn := hid hlen
  clear hS hF hz hlen
  go_enter Try.func62, Try.ntmps62
  go_wp2_with fail
  go_loopg [5, 6, 7, 16] len (fun g vo vs vg vi wr => ∃ k : Nat, vi = .int .i64 k ∧ k ≤ len ∧ g = len - k ∧ vs = .int .i64 (stI ((zs.take k).foldl (stepC clsP) ([], none, []))) ∧ vg = .int .i64 (gr clsP ((zs.take k).foldl (stepC clsP) ([], none, [])).2.2) ∧ Hid (CI w wr vo (outC ((zs.take k).foldl (stepC clsP) ([], none, []))) k))
  case atStart => exact ⟨0, rfl, Nat.zero_le _, rfl, rfl, rfl, ⟨World.ownsRow_nil _ _ _ _, Below.refl _ _, Nat.le_refl _, Nat.le_refl _⟩, fun y hy => by simp [outC] at hy, Nat.le_refl _⟩
  case round =>
    obtain ⟨k, rfl, hk, hg, rfl, rfl, H⟩ := hrel
    have HG := hid hg
    clear hg
    by_cases hlt : k < len
    · have hlx : k < zs.length := by rw [HLn.out]; exact hlt
      obtain ⟨bb, off, e0, hb, c1⟩ := HS.out.at_ k hlx
      subst e0
      have d1 := (H.out.1.2.1.cell (p := ⟨bb, off + k, none⟩) hb).trans c1
      have HE := hid (comp_take hlx)
      have hr : Hid (I32 zs[k]) := HZ.out _ (List.getElem_mem hlx)
      have hcf := (HF.out.step H.out.1.2.1).cells.1
      have HCl := hid (cls_any (HF.out.step H.out.1.2.1).bk zs[k])
      have hcr := (cls_bd zs[k]).1
      have z1 : (k : Int) < (len : Int) := by omega
      clear c1
      generalize zs[k] = r at *
      generalize hSS : (zs.take k).foldl (stepC clsP) ([], none, []) = S at *
      clear hSS
      obtain ⟨A, o, M⟩ := S
      have hg0 := gr_nn M
      have HGr : Hid (gr clsP M = gr clsP M) := rfl
      cases o with
      | none =>
        have HT : Hid (tryC clsP (A, none, M) r = false) := rfl
        have HLL : Hid (outC (A, none, M) = outC (A, none, M)) := rfl
        simp only [stI]
        obtain ⟨ao2, cp, hvo⟩ := Od.own_slice H.out.1.1
        subst hvo
        have hnk := H.out.2.2
        generalize hnn : (outC (A, none, M)).length = n at *
        have HNn := hid hnn
        clear hnn
        by_cases h0 : 0 < gr clsP M
        · by_cases h1 : clsP r ≤ gr clsP M
          · have hdd := True.intro
            by_cases hc : clsP r = 0
            · have HC0 := hid hc
              have HSt := hid (step_zero HT.out HC0.out)
              have HS2 : Hid (stI (stepC clsP (A, none, M) r) = (n : Int) ∧ gr clsP (stepC clsP (A, none, M) r).2.2 = 0) := ⟨by rw [HSt.out.2.1, HNn.out], HSt.out.2.2⟩
              have HS3 : Hid (outC (stepC clsP (A, none, M) r) = outC (A, none, M) ++ [r]) := HSt.out.1
              clear HSt
              generalize gr clsP M = gm at *
              generalize clsP r = cr at *
              subst hc
              go_wp2_with (first | (go_at_call 26; refine HCl.out.mono ?_; rintro e w1 ⟨rfl, hb1⟩; have HI := hid (H.out.step hb1); clear hb1) | (at_builtin; refine app_i32 rfl (.tmp 61) (.tmp 63) rfl w1 w.heap.size n _ (ivs .i32 (outC (A, none, M))) r rfl w1.heap.size rfl rfl (by have := HI.out.1.1; rw [HNn.out] at this; exact this) (by omega) HI.out.1.2.2.2 (fun v2 w2 h3 h4 => ?_); have HP := hid (HI.out.put HNn.out hr.out h3 h4); clear h3 h4))
              have HP2 : Hid (CI w w2 v2 (outC (stepC clsP (A, none, M) r)) (k + 1)) := by show CI _ _ _ _ _; rw [HS3.out]; exact HP.out
              clear HP
              go_roundg (len - (k + 1))
              case measure => rw [HG.out]; omega
              case rel => exact ⟨k + 1, by go_num, by omega, rfl, by rw [HE.out, HS2.out.1], by rw [HE.out, HS2.out.2] <;> (refine int_eq ?_; omega), by rw [HE.out]; exact HP2.out⟩
            · have HC0 := hid hc
              have hc2 : (clsP r == 0) = false := by simpa using hc
              have hm : ¬ clsP r > gr clsP M := by omega
              have hm' : ¬ gr clsP M < clsP r := by omega
              have HSt := hid (step_mark HT.out HC0.out)
              have HS2 : Hid (stI (stepC clsP (A, none, M) r) = -1 ∧ gr clsP (stepC clsP (A, none, M) r).2.2 = gr clsP M) := ⟨HSt.out.2.1, by rw [HSt.out.2.2]; exact if_neg hm'⟩
              have HS3 : Hid (outC (stepC clsP (A, none, M) r) = outC (A, none, M) ++ [r]) := HSt.out.1
              clear HSt
              generalize gr clsP M = gm at *
              generalize clsP r = cr at *
              go_wp2_with (first | (go_at_call 26; refine HCl.out.mono ?_; rintro e w1 ⟨rfl, hb1⟩; have HI := hid (H.out.step hb1); clear hb1) | (at_builtin; refine app_i32 rfl (.tmp 61) (.tmp 63) rfl w1 w.heap.size n _ (ivs .i32 (outC (A, none, M))) r rfl w1.heap.size rfl rfl (by have := HI.out.1.1; rw [HNn.out] at this; exact this) (by omega) HI.out.1.2.2.2 (fun v2 w2 h3 h4 => ?_); have HP := hid (HI.out.put HNn.out hr.out h3 h4); clear h3 h4))
              have HP2 : Hid (CI w w2 v2 (outC (stepC clsP (A, none, M) r)) (k + 1)) := by show CI _ _ _ _ _; rw [HS3.out]; exact HP.out
              clear HP
              go_roundg (len - (k + 1))
              case measure => rw [HG.out]; omega
              case rel => exact ⟨k + 1, by go_num, by omega, rfl, by rw [HE.out, HS2.out.1], by rw [HE.out, HS2.out.2] <;> (refine int_eq ?_; omega), by rw [HE.out]; exact HP2.out⟩
          · have h1' : decide (clsP r ≤ gr clsP M) = false := decide_eq_false h1
            have hc : ¬ clsP r = 0 := by omega
            have HC0 := hid hc
            have hc2 : (clsP r == 0) = false := by simpa using hc
            have hm' : gr clsP M < clsP r := by omega
            have HSt := hid (step_mark HT.out HC0.out)
            have HS2 : Hid (stI (stepC clsP (A, none, M) r) = -1 ∧ gr clsP (stepC clsP (A, none, M) r).2.2 = clsP r) := ⟨HSt.out.2.1, by rw [HSt.out.2.2]; exact if_pos hm'⟩
            have HS3 : Hid (outC (stepC clsP (A, none, M) r) = outC (A, none, M) ++ [r]) := HSt.out.1
            clear HSt
            generalize gr clsP M = gm at *
            generalize clsP r = cr at *
            go_wp2_with (first | (go_at_call 26; refine HCl.out.mono ?_; rintro e w1 ⟨rfl, hb1⟩; have HI := hid (H.out.step hb1); clear hb1) | (at_builtin; refine app_i32 rfl (.tmp 61) (.tmp 63) rfl w1 w.heap.size n _ (ivs .i32 (outC (A, none, M))) r rfl w1.heap.size rfl rfl (by have := HI.out.1.1; rw [HNn.out] at this; exact this) (by omega) HI.out.1.2.2.2 (fun v2 w2 h3 h4 => ?_); have HP := hid (HI.out.put HNn.out hr.out h3 h4); clear h3 h4))
            have HP2 : Hid (CI w w2 v2 (outC (stepC clsP (A, none, M) r)) (k + 1)) := by show CI _ _ _ _ _; rw [HS3.out]; exact HP.out
            clear HP
            go_roundg (len - (k + 1))
            case measure => rw [HG.out]; omega
            case rel => exact ⟨k + 1, by go_num, by omega, rfl, by rw [HE.out, HS2.out.1], by rw [HE.out, HS2.out.2] <;> (refine int_eq ?_; omega), by rw [HE.out]; exact HP2.out⟩
        · have e0 : gr clsP M = 0 := by omega
          by_cases hc : clsP r = 0
          · have HC0 := hid hc
            have HSt := hid (step_zero HT.out HC0.out)
            have HS2 : Hid (stI (stepC clsP (A, none, M) r) = (n : Int) ∧ gr clsP (stepC clsP (A, none, M) r).2.2 = 0) := ⟨by rw [HSt.out.2.1, HNn.out], HSt.out.2.2⟩
            have HS3 : Hid (outC (stepC clsP (A, none, M) r) = outC (A, none, M) ++ [r]) := HSt.out.1
            clear HSt
            generalize gr clsP M = gm at *
            generalize clsP r = cr at *
            subst hc
            go_wp2_with (first | (go_at_call 26; refine HCl.out.mono ?_; rintro e w1 ⟨rfl, hb1⟩; have HI := hid (H.out.step hb1); clear hb1) | (at_builtin; refine app_i32 rfl (.tmp 61) (.tmp 63) rfl w1 w.heap.size n _ (ivs .i32 (outC (A, none, M))) r rfl w1.heap.size rfl rfl (by have := HI.out.1.1; rw [HNn.out] at this; exact this) (by omega) HI.out.1.2.2.2 (fun v2 w2 h3 h4 => ?_); have HP := hid (HI.out.put HNn.out hr.out h3 h4); clear h3 h4))
            have HP2 : Hid (CI w w2 v2 (outC (stepC clsP (A, none, M) r)) (k + 1)) := by show CI _ _ _ _ _; rw [HS3.out]; exact HP.out
            clear HP
            go_roundg (len - (k + 1))
            case measure => rw [HG.out]; omega
            case rel => exact ⟨k + 1, by go_num, by omega, rfl, by rw [HE.out, HS2.out.1], by rw [HE.out, HS2.out.2] <;> (refine int_eq ?_; omega), by rw [HE.out]; exact HP2.out⟩
          · have HC0 := hid hc
            have hc2 : (clsP r == 0) = false := by simpa using hc
            have hm' : gr clsP M < clsP r := by omega
            have HSt := hid (step_mark HT.out HC0.out)
            have HS2 : Hid (stI (stepC clsP (A, none, M) r) = -1 ∧ gr clsP (stepC clsP (A, none, M) r).2.2 = clsP r) := ⟨HSt.out.2.1, by rw [HSt.out.2.2]; exact if_pos hm'⟩
            have HS3 : Hid (outC (stepC clsP (A, none, M) r) = outC (A, none, M) ++ [r]) := HSt.out.1
            clear HSt
            generalize gr clsP M = gm at *
            generalize clsP r = cr at *
            go_wp2_with (first | (go_at_call 26; refine HCl.out.mono ?_; rintro e w1 ⟨rfl, hb1⟩; have HI := hid (H.out.step hb1); clear hb1) | (at_builtin; refine app_i32 rfl (.tmp 61) (.tmp 63) rfl w1 w.heap.size n _ (ivs .i32 (outC (A, none, M))) r rfl w1.heap.size rfl rfl (by have := HI.out.1.1; rw [HNn.out] at this; exact this) (by omega) HI.out.1.2.2.2 (fun v2 w2 h3 h4 => ?_); have HP := hid (HI.out.put HNn.out hr.out h3 h4); clear h3 h4))
            have HP2 : Hid (CI w w2 v2 (outC (stepC clsP (A, none, M) r)) (k + 1)) := by show CI _ _ _ _ _; rw [HS3.out]; exact HP.out
            clear HP
            go_roundg (len - (k + 1))
            case measure => rw [HG.out]; omega
            case rel => exact ⟨k + 1, by go_num, by omega, rfl, by rw [HE.out, HS2.out.1], by rw [HE.out, HS2.out.2] <;> (refine int_eq ?_; omega), by rw [HE.out]; exact HP2.out⟩
      | some x =>
        have hx : Hid (I32 x) := H.out.2.1 x (by simp [outC])
        simp only [stI]
        obtain ⟨g0, cp, hvo⟩ := ow_some H.out.1 (by simp [outC] <;> omega)
        subst hvo
        have hnk := H.out.2.2
        have han : A.length < (outC (A, some x, M)).length := by simp [outC] <;> omega
        have HC : Hid (∀ w1, Ow w w1 w.heap.size (.slice (some ⟨g0, 0, none⟩) (outC (A, some x, M)).length cp) (outC (A, some x, M)) → w1.cell? ⟨g0, A.length, none⟩ = some (.int .i32 x)) := by
          refine hid (fun w1 h => ?_)
          have := h.1.cellAt A.length (by simp [outC] <;> omega)
          rw [this]
          simp [outC, ivs]
        have HFz : Hid (∀ w1, Ow w w1 w.heap.size (.slice (some ⟨g0, 0, none⟩) (outC (A, some x, M)).length cp) (outC (A, some x, M)) → w1.frozen? ⟨g0, A.length, none⟩ = false) := hid (fun w1 h => h.1.frozenAt A.length)
        generalize hnn : (outC (A, some x, M)).length = n at *
        have HNn := hid hnn
        clear hnn
        have za : (A.length : Int) < (n : Int) := by omega
        have HTr : Hid (tryC clsP (A, some x, M) r = (!(decide (0 < gr clsP M) && decide (clsP r ≤ gr clsP M)) && mkB x r)) := rfl
        have HTg := hid (fun (w1 : World) (h : Fm w1 f b p d u s) => together_any h hx.out hr.out)
        have HAl : Hid (∃ al, A.length = al) := ⟨_, rfl⟩
        generalize hmk : mkB x r = q at *
        have HMk := hid hmk
        clear hmk
        by_cases h0 : 0 < gr clsP M
        · by_cases h1 : clsP r ≤ gr clsP M
          · have HT : Hid (tryC clsP (A, some x, M) r = false) := by show _ = _; rw [HTr.out]; simp [h0, h1]
            by_cases hc : clsP r = 0
            · have HC0 := hid hc
              have HSt := hid (step_zero HT.out HC0.out)
              have HS2 : Hid (stI (stepC clsP (A, some x, M) r) = (n : Int) ∧ gr clsP (stepC clsP (A, some x, M) r).2.2 = 0) := ⟨by rw [HSt.out.2.1, HNn.out], HSt.out.2.2⟩
              have HS3 : Hid (outC (stepC clsP (A, some x, M) r) = outC (A, some x, M) ++ [r]) := HSt.out.1
              clear HSt
              generalize gr clsP M = gm at *
              generalize clsP r = cr at *
              subst hc
              go_wp2_with (first | (go_at_call 26; refine HCl.out.mono ?_; rintro e w1 ⟨rfl, hb1⟩; have HI := hid (H.out.step hb1); clear hb1; have c2 := HC.out w1 HI.out.1; have f2 := HFz.out w1 HI.out.1) | (go_at_call 78; refine (HTg.out w1 (HF.out.step HI.out.1.2.1)).mono ?_; rintro e w9 ⟨rfl, hw9⟩; rw [hw9]; clear hw9 w9) | (at_builtin; refine app_i32 rfl (.tmp 61) (.tmp 63) rfl w1 w.heap.size n _ (ivs .i32 (outC (A, some x, M))) r rfl w1.heap.size rfl rfl (by have := HI.out.1.1; rw [HNn.out] at this; exact this) (by omega) HI.out.1.2.2.2 (fun v2 w2 h3 h4 => ?_); have HP := hid (HI.out.put HNn.out hr.out h3 h4); clear h3 h4))
              have HP2 : Hid (CI w w2 v2 (outC (stepC clsP (A, some x, M) r)) (k + 1)) := by show CI _ _ _ _ _; rw [HS3.out]; exact HP.out
              clear HP
              go_roundg (len - (k + 1))
              case measure => rw [HG.out]; omega
              case rel => exact ⟨k + 1, by go_num, by omega, rfl, by rw [HE.out, HS2.out.1], by rw [HE.out, HS2.out.2] <;> (refine int_eq ?_; omega), by rw [HE.out]; exact HP2.out⟩
            · have HC0 := hid hc
              have hc2 : (clsP r == 0) = false := by simpa using hc
              have hm : ¬ clsP r > gr clsP M := by omega
              have hm' : ¬ gr clsP M < clsP r := by omega
              have HSt := hid (step_mark HT.out HC0.out)
              have HS2 : Hid (stI (stepC clsP (A, some x, M) r) = (A.length : Int) ∧ gr clsP (stepC clsP (A, some x, M) r).2.2 = gr clsP M) := ⟨HSt.out.2.1, by rw [HSt.out.2.2]; exact if_neg hm'⟩
              have HS3 : Hid (outC (stepC clsP (A, some x, M) r) = outC (A, some x, M) ++ [r]) := HSt.out.1
              clear HSt
              generalize gr clsP M = gm at *
              generalize clsP r = cr at *
              go_wp2_with (first | (go_at_call 26; refine HCl.out.mono ?_; rintro e w1 ⟨rfl, hb1⟩; have HI := hid (H.out.step hb1); clear hb1; have c2 := HC.out w1 HI.out.1; have f2 := HFz.out w1 HI.out.1) | (go_at_call 78; refine (HTg.out w1 (HF.out.step HI.out.1.2.1)).mono ?_; rintro e w9 ⟨rfl, hw9⟩; rw [hw9]; clear hw9 w9) | (at_builtin; refine app_i32 rfl (.tmp 61) (.tmp 63) rfl w1 w.heap.size n _ (ivs .i32 (outC (A, some x, M))) r rfl w1.heap.size rfl rfl (by have := HI.out.1.1; rw [HNn.out] at this; exact this) (by omega) HI.out.1.2.2.2 (fun v2 w2 h3 h4 => ?_); have HP := hid (HI.out.put HNn.out hr.out h3 h4); clear h3 h4))
              have HP2 : Hid (CI w w2 v2 (outC (stepC clsP (A, some x, M) r)) (k + 1)) := by show CI _ _ _ _ _; rw [HS3.out]; exact HP.out
              clear HP
              go_roundg (len - (k + 1))
              case measure => rw [HG.out]; omega
              case rel => exact ⟨k + 1, by go_num, by omega, rfl, by rw [HE.out, HS2.out.1], by rw [HE.out, HS2.out.2] <;> (refine int_eq ?_; omega), by rw [HE.out]; exact HP2.out⟩
          · have h1' : decide (clsP r ≤ gr clsP M) = false := decide_eq_false h1
            have hc : ¬ clsP r = 0 := by omega
            have HC0 := hid hc
            have hc2 : (clsP r == 0) = false := by simpa using hc
            have hm' : gr clsP M < clsP r := by omega
            cases q with
            | true =>
              have HT1 : Hid (tryC clsP (A, some x, M) r = true) := by show _ = _; rw [HTr.out]; simp [h1]
              generalize hgm : gr clsP M = gm at *
              have HGm := hid hgm
              clear hgm
              have HSt : Hid (stepC clsP (A, some x, M) r = (A, some (mkI x r), M)) := step_join HT1.out
              have HMv : Hid (mkV x r = mkI x r ∧ I32 (mkI x r)) := ⟨by rw [mkV, if_pos HMk.out], mk_I32 x r HMk.out⟩
              rw [HMv.out.1] at HTg
              generalize mkI x r = z at *
              go_wp2_with (first | (go_at_call 26; refine HCl.out.mono ?_; rintro e w1 ⟨rfl, hb1⟩; have HI := hid (H.out.step hb1); clear hb1; have c2 := HC.out w1 HI.out.1; have f2 := HFz.out w1 HI.out.1) | (go_at_call 78; refine (HTg.out w1 (HF.out.step HI.out.1.2.1)).mono ?_; rintro e w9 ⟨rfl, hw9⟩; rw [hw9]; clear hw9 w9))
              have HP : Hid (CI w (w1.setCell ⟨g0, A.length, none⟩ (.int .i32 z)) (.slice (some ⟨g0, 0, none⟩) n cp) (outC (A, some z, M)) (k + 1)) := HI.out.set HNn.out HMv.out.2
              go_roundg (len - (k + 1))
              case measure => rw [HG.out]; omega
              case rel => exact ⟨k + 1, by go_num, by omega, rfl, by rw [HE.out, HSt.out]; rfl, by rw [HE.out, HSt.out]; exact int_eq (by show _ = gr clsP M; have := HGm.out; omega), by rw [HE.out, HSt.out]; exact HP.out⟩
            | false =>
              have HT : Hid (tryC clsP (A, some x, M) r = false) := by show _ = _; rw [HTr.out]; simp
              have HSt := hid (step_mark HT.out HC0.out)
              have HS2 : Hid (stI (stepC clsP (A, some x, M) r) = (A.length : Int) ∧ gr clsP (stepC clsP (A, some x, M) r).2.2 = clsP r) := ⟨HSt.out.2.1, by rw [HSt.out.2.2]; exact if_pos hm'⟩
              have HS3 : Hid (outC (stepC clsP (A, some x, M) r) = outC (A, some x, M) ++ [r]) := HSt.out.1
              clear HSt
              generalize gr clsP M = gm at *
              generalize clsP r = cr at *
              go_wp2_with (first | (go_at_call 26; refine HCl.out.mono ?_; rintro e w1 ⟨rfl, hb1⟩; have HI := hid (H.out.step hb1); clear hb1; have c2 := HC.out w1 HI.out.1; have f2 := HFz.out w1 HI.out.1) | (go_at_call 78; refine (HTg.out w1 (HF.out.step HI.out.1.2.1)).mono ?_; rintro e w9 ⟨rfl, hw9⟩; rw [hw9]; clear hw9 w9) | (at_builtin; refine app_i32 rfl (.tmp 61) (.tmp 63) rfl w1 w.heap.size n _ (ivs .i32 (outC (A, some x, M))) r rfl w1.heap.size rfl rfl (by have := HI.out.1.1; rw [HNn.out] at this; exact this) (by omega) HI.out.1.2.2.2 (fun v2 w2 h3 h4 => ?_); have HP := hid (HI.out.put HNn.out hr.out h3 h4); clear h3 h4))
              have HP2 : Hid (CI w w2 v2 (outC (stepC clsP (A, some x, M) r)) (k + 1)) := by show CI _ _ _ _ _; rw [HS3.out]; exact HP.out
              clear HP
              go_roundg (len - (k + 1))
              case measure => rw [HG.out]; omega
              case rel => exact ⟨k + 1, by go_num, by omega, rfl, by rw [HE.out, HS2.out.1], by rw [HE.out, HS2.out.2] <;> (refine int_eq ?_; omega), by rw [HE.out]; exact HP2.out⟩
        · have e0 : gr clsP M = 0 := by omega
          cases q with
          | true =>
            have HT1 : Hid (tryC clsP (A, some x, M) r = true) := by show _ = _; rw [HTr.out]; simp [h0]
            generalize hgm : gr clsP M = gm at *
            have HGm := hid hgm
            clear hgm
            have HSt : Hid (stepC clsP (A, some x, M) r = (A, some (mkI x r), M)) := step_join HT1.out
            have HMv : Hid (mkV x r = mkI x r ∧ I32 (mkI x r)) := ⟨by rw [mkV, if_pos HMk.out], mk_I32 x r HMk.out⟩
            rw [HMv.out.1] at HTg
            generalize mkI x r = z at *
            go_wp2_with (first | (go_at_call 26; refine HCl.out.mono ?_; rintro e w1 ⟨rfl, hb1⟩; have HI := hid (H.out.step hb1); clear hb1; have c2 := HC.out w1 HI.out.1; have f2 := HFz.out w1 HI.out.1) | (go_at_call 78; refine (HTg.out w1 (HF.out.step HI.out.1.2.1)).mono ?_; rintro e w9 ⟨rfl, hw9⟩; rw [hw9]; clear hw9 w9))
            have HP : Hid (CI w (w1.setCell ⟨g0, A.length, none⟩ (.int .i32 z)) (.slice (some ⟨g0, 0, none⟩) n cp) (outC (A, some z, M)) (k + 1)) := HI.out.set HNn.out HMv.out.2
            go_roundg (len - (k + 1))
            case measure => rw [HG.out]; omega
            case rel => exact ⟨k + 1, by go_num, by omega, rfl, by rw [HE.out, HSt.out]; rfl, by rw [HE.out, HSt.out]; exact int_eq (by show _ = gr clsP M; have := HGm.out; omega), by rw [HE.out, HSt.out]; exact HP.out⟩
          | false =>
            have HT : Hid (tryC clsP (A, some x, M) r = false) := by show _ = _; rw [HTr.out]; simp
            by_cases hc : clsP r = 0
            · have HC0 := hid hc
              have HSt := hid (step_zero HT.out HC0.out)
              have HS2 : Hid (stI (stepC clsP (A, some x, M) r) = (n : Int) ∧ gr clsP (stepC clsP (A, some x, M) r).2.2 = 0) := ⟨by rw [HSt.out.2.1, HNn.out], HSt.out.2.2⟩
              have HS3 : Hid (outC (stepC clsP (A, some x, M) r) = outC (A, some x, M) ++ [r]) := HSt.out.1
              clear HSt
              generalize gr clsP M = gm at *
              generalize clsP r = cr at *
              subst hc
              go_wp2_with (first | (go_at_call 26; refine HCl.out.mono ?_; rintro e w1 ⟨rfl, hb1⟩; have HI := hid (H.out.step hb1); clear hb1; have c2 := HC.out w1 HI.out.1; have f2 := HFz.out w1 HI.out.1) | (go_at_call 78; refine (HTg.out w1 (HF.out.step HI.out.1.2.1)).mono ?_; rintro e w9 ⟨rfl, hw9⟩; rw [hw9]; clear hw9 w9) | (at_builtin; refine app_i32 rfl (.tmp 61) (.tmp 63) rfl w1 w.heap.size n _ (ivs .i32 (outC (A, some x, M))) r rfl w1.heap.size rfl rfl (by have := HI.out.1.1; rw [HNn.out] at this; exact this) (by omega) HI.out.1.2.2.2 (fun v2 w2 h3 h4 => ?_); have HP := hid (HI.out.put HNn.out hr.out h3 h4); clear h3 h4))
              have HP2 : Hid (CI w w2 v2 (outC (stepC clsP (A, some x, M) r)) (k + 1)) := by show CI _ _ _ _ _; rw [HS3.out]; exact HP.out
              clear HP
              go_roundg (len - (k + 1))
              case measure => rw [HG.out]; omega
              case rel => exact ⟨k + 1, by go_num, by omega, rfl, by rw [HE.out, HS2.out.1], by rw [HE.out, HS2.out.2] <;> (refine int_eq ?_; omega), by rw [HE.out]; exact HP2.out⟩
            · have HC0 := hid hc
              have hc2 : (clsP r == 0) = false := by simpa using hc
              have hm' : gr clsP M < clsP r := by omega
              have HSt := hid (step_mark HT.out HC0.out)
              have HS2 : Hid (stI (stepC clsP (A, some x, M) r) = (A.length : Int) ∧ gr clsP (stepC clsP (A, some x, M) r).2.2 = clsP r) := ⟨HSt.out.2.1, by rw [HSt.out.2.2]; exact if_pos hm'⟩
              have HS3 : Hid (outC (stepC clsP (A, some x, M) r) = outC (A, some x, M) ++ [r]) := HSt.out.1
              clear HSt
              generalize gr clsP M = gm at *
              generalize clsP r = cr at *
              go_wp2_with (first | (go_at_call 26; refine HCl.out.mono ?_; rintro e w1 ⟨rfl, hb1⟩; have HI := hid (H.out.step hb1); clear hb1; have c2 := HC.out w1 HI.out.1; have f2 := HFz.out w1 HI.out.1) | (go_at_call 78; refine (HTg.out w1 (HF.out.step HI.out.1.2.1)).mono ?_; rintro e w9 ⟨rfl, hw9⟩; rw [hw9]; clear hw9 w9) | (at_builtin; refine app_i32 rfl (.tmp 61) (.tmp 63) rfl w1 w.heap.size n _ (ivs .i32 (outC (A, some x, M))) r rfl w1.heap.size rfl rfl (by have := HI.out.1.1; rw [HNn.out] at this; exact this) (by omega) HI.out.1.2.2.2 (fun v2 w2 h3 h4 => ?_); have HP := hid (HI.out.put HNn.out hr.out h3 h4); clear h3 h4))
              have HP2 : Hid (CI w w2 v2 (outC (stepC clsP (A, some x, M) r)) (k + 1)) := by show CI _ _ _ _ _; rw [HS3.out]; exact HP.out
              clear HP
              go_roundg (len - (k + 1))
              case measure => rw [HG.out]; omega
              case rel => exact ⟨k + 1, by go_num, by omega, rfl, by rw [HE.out, HS2.out.1], by rw [HE.out, HS2.out.2] <;> (refine int_eq ?_; omega), by rw [HE.out]; exact HP2.out⟩
    · have e : k = len := by omega
      subst e
      have HW : Hid (Ow w wr w.heap.size u5 (compP clsP zs)) := by
        have := H.out.1
        rw [← HLn.out, List.take_length] at this
        exact this
      go_wp2_with fail
      go_ret
      exact ⟨_, rfl, own_sl HW.out.1, HW.out.2.1⟩
end Nf
end Go.Proofs.Ytbamhbfncddieaa

namespace Go.Proofs.Ytbamhbfncddieaa
namespace Nf
open Go.RowKit Od Pr Ha

theorem ins_mem (c : Int → Int) (x : Int) : ∀ (l : List Int), (∀ y, y ∈ ins c x l → y = x ∨ y ∈ l) ∧ (ins c x l).length = l.length + 1
  | [] => ⟨fun y h => by simp [ins] at h; exact .inl h, by simp [ins]⟩
  | z :: l => by
    obtain ⟨h1, h2⟩ := ins_mem c x l
    unfold ins
    split
    · refine ⟨fun y h => ?_, by simp [h2]⟩
      rcases List.mem_cons.1 h with h | h
      · exact .inr (by simp [h])
      · rcases h1 y h with h | h
        · exact .inl h
        · exact .inr (by simp [h])
    · exact ⟨fun y h => List.mem_cons.1 h, by simp⟩
theorem srt_len (c : Int → Int) : ∀ l : List Int, (srt c l).length = l.length
  | [] => rfl
  | x :: l => by
    simp only [srt]
    rw [(ins_mem c x _).2, srt_len c l, List.length_cons]
theorem srt_mem (c : Int → Int) : ∀ (l : List Int) (y : Int), y ∈ srt c l → y ∈ l
  | [], y, h => by simp [srt] at h
  | x :: l, y, h => by
    simp only [srt] at h
    rcases (ins_mem c x _).1 y h with h | h
    · simp [h]
    · simp [srt_mem c l y h]
theorem nfd_I32 (c : Int → Int) (zs : List Int) (hz : ∀ z ∈ zs, I32 z) : ∀ y ∈ nfdP c zs, I32 y := by
  intro y hy
  have := srt_mem c _ y hy
  obtain ⟨x, hx, h⟩ := List.mem_flatMap.1 this
  rw [← ap5] at h
  exact apF_I32 5 x (hz x hx) y h
theorem step_I32 (S : CS) (r : Int) (hr : I32 r) (h : ∀ y ∈ outC S, I32 y) : (∀ y ∈ outC (stepC clsP S r), I32 y) ∧ (outC (stepC clsP S r)).length ≤ (outC S).length + 1 := by
  by_cases ht : tryC clsP S r = true
  · obtain ⟨A, o, M⟩ := S
    cases o with
    | none => cases ht
    | some x =>
      rw [step_join ht]
      have hm : mkB x r = true := by
        have := ht
        simp only [tryC, Bool.and_eq_true] at this
        exact this.2
      have hI := mk_I32 x r hm
      refine ⟨fun y hy => ?_, by simp [outC]⟩
      by_cases e : y = mkI x r
      · rw [e]; exact hI
      · refine h y ?_
        simp [outC] at hy ⊢
        rcases hy with hy | hy | hy
        · exact .inl hy
        · exact (e hy).elim
        · exact .inr (.inr hy)
  · rw [outC_no clsP S r (by simpa using ht)]
    refine ⟨fun y hy => ?_, by simp⟩
    rcases List.mem_append.1 hy with hy | hy
    · exact h y hy
    · simp at hy; subst hy; exact hr
theorem fold_I32 : ∀ (l : List Int) (S : CS), (∀ z ∈ l, I32 z) → (∀ y ∈ outC S, I32 y) → (∀ y ∈ outC (l.foldl (stepC clsP) S), I32 y) ∧ (outC (l.foldl (stepC clsP) S)).length ≤ (outC S).length + l.length
  | [], S, _, h => ⟨h, by simp⟩
  | r :: l, S, hz, h => by
    obtain ⟨h1, h2⟩ := step_I32 S r (hz r (by simp)) h
    obtain ⟨h3, h4⟩ := fold_I32 l (stepC clsP S r) (fun z hz' => hz z (by simp [hz'])) h1
    refine ⟨h3, ?_⟩
    rw [List.foldl_cons, List.length_cons]
    omega
theorem comp_I32 (zs : List Int) (hz : ∀ z ∈ zs, I32 z) : (∀ y ∈ compP clsP zs, I32 y) ∧ (compP clsP zs).length ≤ zs.length := by
  obtain ⟨h1, h2⟩ := fold_I32 zs ([], none, []) hz (fun y hy => by simp [outC] at hy)
  refine ⟨h1, ?_⟩
  have e : (outC (([], none, []) : CS)).length = 0 := rfl
  rw [e, Nat.zero_add] at h2
  exact h2
theorem nfd_len (zs : List Int) : (nfdP clsP zs).length ≤ 96 * zs.length := by
  have := flat_len zs
  unfold nfdP
  rw [srt_len]
  exact this
theorem nfc_I32 (zs : List Int) (hz : ∀ z ∈ zs, I32 z) : (∀ y ∈ nfcP clsP zs, I32 y) ∧ (nfcP clsP zs).length ≤ 96 * zs.length := by
  obtain ⟨h1, h2⟩ := comp_I32 _ (nfd_I32 clsP zs hz)
  exact ⟨h1, Nat.le_trans h2 (nfd_len zs)⟩

set_option maxRecDepth 100000 in
set_option maxHeartbeats 2000000 in
theorem nfc_any {w : World} {f b p d u s : Nat} (hF : Fm w f b p d u s) {v : Value} {zs : List Int} (hS : Sl .i32 w v zs) (hz : ∀ z ∈ zs, I32 z) (hn : zs.length ≤ 10000) :
    Calls Try.prog 39 #[.pointer (some ⟨f, 0, none⟩), v] w fun e w' => ∃ v', e = .returned v' ∧ Sl .i32 w' v' (nfcP clsP zs) ∧ Below w.heap.size w w' := by
  have HN := hid (nfd_any hF hS hz hn)
  have HC := hid (fun (w1 : World) (v1 : Value) (h : Below w.heap.size w w1) (h1 : Sl .i32 w1 v1 (nfdP clsP zs)) => compose_any (hF.step h) h1 (nfd_I32 clsP zs hz) (Nat.le_trans (nfd_len zs) (by omega)))
  clear hF hS hz hn
  go_enter Try.func39, Try.ntmps39
  go_wp2_with (first | (go_at_call 63; refine HN.out.mono ?_; rintro e w1 ⟨v1, rfl, h1, h2⟩; have H1 := hid (And.intro h1 h2); clear h1 h2) | (go_at_call 62; refine (HC.out w1 v1 H1.out.2 H1.out.1).mono ?_; rintro e w2 ⟨v2, rfl, h1, h2⟩; have H2 := hid (And.intro h1 h2); clear h1 h2))
  go_ret
  exact ⟨_, rfl, H2.out.1, H1.out.2.trans (H2.out.2.mono H1.out.2.size)⟩

set_option maxRecDepth 100000 in
set_option maxHeartbeats 2000000 in
theorem new_any' {w : World} {b p d u s : Nat} (hb : Bk w b) (hp : PW w p d u s allP 395) :
    Calls Try.prog 10 #[.pointer (some ⟨b, 0, none⟩), .pointer (some ⟨p, 0, none⟩)] w fun e w' => ∃ f, e = .returned (.pointer (some ⟨f, 0, none⟩)) ∧ Fm w' f b p d u s ∧ Below w.heap.size w w' := by
  have HB := hid hb
  have HP := hid hp
  have hB : Hid (Below w.heap.size w (w.alloc (.cells #[.pointer (some ⟨b, 0, none⟩), .pointer (some ⟨p, 0, none⟩)] 49))) := (Below.refl w.heap.size w).alloc (Nat.le_refl _) _
  clear hb hp
  go_enter Try.func10, Try.ntmps10
  go_wp2_with fail
  go_ret
  exact ⟨_, rfl, ⟨heap_alloc_new w _, HB.out.step hB.out, HP.out.step hB.out⟩, hB.out⟩

end Nf
end Go.Proofs.Ytbamhbfncddieaa

namespace Go.Proofs.Ytbamhbfncddieaa
namespace Nf
open Go.RowKit Od Pr Ha

set_option maxRecDepth 100000 in
set_option maxHeartbeats 2000000 in
theorem eq_any (v v' : Value) (zs ys : List Int) (w : World) (h : Sl .i32 w v zs) (h' : Sl .i32 w v' ys) (hn : zs.length ≤ 1000000000) :
    Calls Try.prog 38 #[v, v'] w fun e w' => e = .returned (.bool (decide (zs = ys))) ∧ Below w.heap.size w w' := by
  obtain ⟨ao, cap, rfl, h⟩ := h
  obtain ⟨ao', cap', rfl, h'⟩ := h'
  have HS := hid h
  have HS' := hid h'
  clear h h'
  by_cases hl : zs.length = ys.length
  · have HL := hid hl
    have hl1 : zs.length ≤ ys.length := by omega
    have hl2 : ys.length ≤ zs.length := by omega
    rw [← hl]
    clear hl
    have hok := hid (Ok.start w)
    go_enter Try.func38, Try.ntmps38
    go_wp2_with fail
    go_loopg [13] zs.length (fun g vi wr => ∃ k : Nat, vi = .int .i64 k ∧ k ≤ zs.length ∧ g = zs.length - k ∧ Hid (zs.take k = ys.take k ∧ Ok w.heap.size w wr))
    case atStart => exact ⟨0, rfl, Nat.zero_le _, rfl, rfl, hok.out⟩
    case round =>
      obtain ⟨k, rfl, hk, hg, H⟩ := hrel
      have HG := hid hg
      clear hg hok
      by_cases hlt : k < zs.length
      · obtain ⟨b, off, rfl, hb, hc⟩ := HS.out.at_ k hlt
        obtain ⟨b', off', rfl, hb', hc'⟩ := HS'.out.at_ k (by omega)
        have c1 := ((H.out.2.1.cell (p := ⟨b, off + k, none⟩) hb).trans hc)
        have c2 := ((H.out.2.1.cell (p := ⟨b', off' + k, none⟩) hb').trans hc')
        have c1d : wr.drew.cell? ⟨b, off + k, none⟩ = some (.int .i32 zs[k]) := c1
        have c2d : wr.drew.cell? ⟨b', off' + k, none⟩ = some (.int .i32 (ys[k]'(by omega))) := c2
        clear hc hc'
        have hlt' : (k : Int) < (zs.length : Int) := by omega
        have HOD : Hid (Ok w.heap.size w wr.drew) := H.out.2.step ((Below.refl _ _).drew)
        by_cases he : zs[k] = ys[k]'(by omega)
        · have HT : Hid (zs.take (k + 1) = ys.take (k + 1)) := by
            show _ = _
            rw [List.take_succ_eq_append_getElem hlt, List.take_succ_eq_append_getElem (show k < ys.length by omega), H.out.1, he]
          rw [← he] at c2 c2d
          clear he
          generalize zs[k] = z at *
          go_wp2_with fail
          go_region
          go_wp2_with fail
          go_roundg (zs.length - (k + 1))
          case measure => rw [HG.out]; omega
          case rel => exact ⟨k + 1, by go_num, by omega, rfl, HT.out, HOD.out⟩
        · have HT : Hid (¬ zs = ys) := fun e => he (by simp only [e])
          generalize zs[k] = z at *
          generalize ys[k]'(by omega) = y at *
          have hne : (z != y) = true := by simpa using he
          go_wp2_with fail
          go_region
          go_wp2_with fail
          go_ret
          exact ⟨ret_bool (decide_eq_false HT.out).symm, HOD.out.1⟩
      · have e : k = zs.length := by omega
        subst e
        go_wp2_with fail
        go_ret
        refine ⟨ret_bool (decide_eq_true ?_).symm, H.out.2.1⟩
        have h1 := H.out.1
        rwa [List.take_length, HL.out, List.take_length] at h1
  · have hne : ¬ (zs.length : Int) = (ys.length : Int) := by omega
    go_enter Try.func38, Try.ntmps38
    go_wp2_with fail
    go_ret
    exact ⟨ret_bool (decide_eq_false (fun e => hl (by rw [e]))).symm, Below.refl _ _⟩

end Nf
end Go.Proofs.Ytbamhbfncddieaa
