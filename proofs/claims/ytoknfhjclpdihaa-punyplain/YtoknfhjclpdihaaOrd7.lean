import Derived.Test.YtoknfhjclpdihaaOrd6
namespace Go.Proofs.Ytoknfhjclpdihaa
namespace Od
open Go.RowKit

set_option maxHeartbeats 8000000 in
set_option maxRecDepth 100000 in
theorem sym3_lo_any {c : Int → Int} {G : World → Prop} {cb : Array Value} (b off cap len : Nat) (T : List Value) (N : Nat) (hC : Cmp c G b cb) (hlen : len < 1000000000000) (ih : SymOk c G cb b off cap len T N)
    (w : World) (a m n : Nat) (A Y1 Y2 B : List Int) (hN : n - a ≤ N + 1) (h : Blk w b (A ++ (Y1 ++ Y2) ++ B) T) (hG : G w) (hA : A.length = off + a) (hY1 : a + Y1.length = m) (hY2 : m + Y2.length = n) (ham : a + 1 < m) (hmn : m + 1 < n) (hl : n ≤ len) (hpos : ∀ y ∈ Y1 ++ Y2, 0 < c y) (hs1 : Pw c Y1) (hs2 : Pw c Y2)
    (mid s0 r0 : Nat) (hmid : ((a : Int) + (n : Int)) / 2 = (mid : Int)) (hcase : m ≤ mid ∧ s0 = a ∧ r0 = m) :
    Calls Try.prog 47 #[.slice (some ⟨b, off, none⟩) len cap, .int .i64 a, .int .i64 m, .int .i64 n, .func (.func 36) #[] cb] w fun e w' => e = .returned (.tuple #[]) ∧ ∃ X', Pw c X' ∧ Row c G b w A (Y1 ++ Y2) B T X' w' := by
  have HC := hid hC
  have HIH := hid ih
  have HA := hid hA
  have HY1 := hid hY1
  have HY2 := hid hY2
  have HP := hid hpos
  have HSo := hid (And.intro hs1 hs2)
  have HS : Hid (Row c G b w A (Y1 ++ Y2) B T (Y1 ++ Y2) w) := ⟨.refl _, h, hG, Alt.refl _ _⟩
  have HCase := hid hcase
  have hb1 : a < mid := by omega
  have hb2 : mid < n := by omega
  have hb3 : a ≤ s0 := by omega
  have hb4 : s0 ≤ r0 := by omega
  have hb5 : r0 ≤ m := by omega
  have hb6 : r0 ≤ mid := by omega
  have hb7 : mid + m ≤ s0 + n := by omega
  have e1 : IntKind.i64.wrap ((n : Int) - (m : Int)) = ((n - m : Nat) : Int) := by rw [IntKind.wrap_i64]; omega
  have e2 : IntKind.i64.wrap ((m : Int) - (a : Int)) = ((m - a : Nat) : Int) := by rw [IntKind.wrap_i64]; omega
  have e3 : ¬ ((m - a : Nat) : Int) = 1 := by omega
  have e4 : (((m - a : Nat) : Int) == 1) = false := by simpa using e3
  have e5 : ¬ ((n - m : Nat) : Int) = 1 := by omega
  have e6 : (((n - m : Nat) : Int) == 1) = false := by simpa using e5
  have hgt : ¬ (mid : Int) < (m : Int) := by omega
  have hr1 : m ≤ r0 := by omega
  have hr2 : s0 ≤ a := by omega
  have d1 : decide ((mid : Int) < (m : Int)) = false := decide_eq_false hgt
  clear hC ih hA hY1 hY2 hpos h hG hs1 hs2 hcase
  go_enter Try.func47, Try.ntmps47
  go_wp2_with fail
  go_loopg [20, 21] (r0 - s0) (fun g vs vr wr => ∃ s r : Nat, vs = .int .i64 s ∧ vr = .int .i64 r ∧ s0 ≤ s ∧ s ≤ r ∧ r ≤ r0 ∧ g = r - s ∧ Hid ((∀ k, s0 - a ≤ k → k < s - a → ¬ Lss c Y1 Y2 (mid - a) k) ∧ (∀ k, r - a ≤ k → k < r0 - a → Lss c Y1 Y2 (mid - a) k) ∧ Row c G b w A (Y1 ++ Y2) B T (Y1 ++ Y2) wr))
  case atStart => exact ⟨s0, r0, by first | rfl | (congr 1; omega), by first | rfl | (congr 1; omega), Nat.le_refl _, hb4, Nat.le_refl _, rfl, fun k h1 h2 => by omega, fun k h1 h2 => by omega, HS.out⟩
  case round =>
    obtain ⟨s, r, rfl, rfl, hs0, hsr, hr0, hg, H⟩ := hrel
    have HG := hid hg
    clear hg HS e1 e2 e3 e4 e5 e6 d1 hgt
    have g1 : IntKind.i64.wrap ((mid : Int) + (m : Int) - 1 ) = ((mid + m - 1 : Nat) : Int) := by rw [IntKind.wrap_i64]; omega
    by_cases hlt : s < r
    · obtain ⟨k, hk⟩ : ∃ k, k = (s + r) / 2 := ⟨_, rfl⟩
      have k1 : s ≤ k := by omega
      have k2 : k < r := by omega
      have hkz : ((s : Int) + (r : Int)) / 2 = (k : Int) := by omega
      clear hk
      have HR0 := hid H.out.2.2
      have HR : Hid (Row c G b w A (Y1 ++ Y2) B T (Y1 ++ Y2) wr.drew) := H.out.2.2.step HC.out ((Below.refl _ _).drew)
      obtain ⟨q, hq⟩ : ∃ q, q = mid + m - 1 - k := ⟨_, rfl⟩
      have hqz : IntKind.i64.wrap (((mid + m - 1 : Nat) : Int) - (k : Int)) = (q : Int) := by rw [IntKind.wrap_i64]; omega
      have hqz' : IntKind.i64.wrap ((mid : Int) + (m : Int) - 1 - (k : Int)) = (q : Int) := by rw [IntKind.wrap_i64]; omega
      have KK : Hid (off + q = A.length + (q - a) ∧ off + k = A.length + (k - a) ∧ (Y1 ++ Y2)[q - a]? = some (Y2.getD (mid - a - 1 - (k - a)) 0) ∧ (Y1 ++ Y2)[k - a]? = some (Y1.getD (k - a) 0)) := by
        have h1 := HA.out
        have h2 := HY1.out
        have h3 := HY2.out
        refine ⟨by omega, by omega, ?_, ?_⟩
        · rw [List.getElem?_append_right (by omega), List.getElem?_eq_getElem (show q - a - Y1.length < Y2.length by omega)]
          rw [List.getD_eq_getElem?_getD, show mid - a - 1 - (k - a) = q - a - Y1.length by omega, List.getElem?_eq_getElem (show q - a - Y1.length < Y2.length by omega)]
          rfl
        · rw [List.getElem?_append_left (by omega), List.getElem?_eq_getElem (show k - a < Y1.length by omega)]
          rw [List.getD_eq_getElem?_getD, List.getElem?_eq_getElem (show k - a < Y1.length by omega)]
          rfl
      have HL : Hid (Lss c Y1 Y2 (mid - a) (k - a) ↔ c (Y2.getD (mid - a - 1 - (k - a)) 0) < c (Y1.getD (k - a) 0)) := Iff.rfl
      have HM : Hid ((∀ k', k - a ≤ k' → k' < r0 - a → Lss c Y1 Y2 (mid - a) (k - a) → Lss c Y1 Y2 (mid - a) k') ∧ (∀ k', s0 - a ≤ k' → k' ≤ k - a → Lss c Y1 Y2 (mid - a) k' → Lss c Y1 Y2 (mid - a) (k - a))) := by
        have h2 := HY1.out
        have h3 := HY2.out
        exact ⟨fun k' a1 a2 hl => Lss.mono HSo.out.1 HSo.out.2 a1 (by omega) (by omega) hl, fun k' a1 a2 hl => Lss.mono HSo.out.1 HSo.out.2 a2 (by omega) (by omega) hl⟩
      have z1 : (k : Int) < (len : Int) := by omega
      have z2 : (q : Int) < (len : Int) := by omega
      clear hq
      generalize Y2.getD (mid - a - 1 - (k - a)) 0 = y at *
      generalize Y1.getD (k - a) 0 = x at *
      have HPos : Hid (0 < c y ∧ 0 < c x) := ⟨HR.out.pos HP.out y (List.mem_of_getElem? KK.out.2.2.1), HR.out.pos HP.out x (List.mem_of_getElem? KK.out.2.2.2)⟩
      by_cases hcx : c y < c x
      · have hv : cmpI (c y) (c x) < 0 := (cmpI_lt _ _).2 hcx
        have HV := hid (fun W (h : G W) => HC.out.call W y x HPos.out.1 HPos.out.2 h)
        have HX2 := hid (HL.out.2 hcx)
        generalize cmpI (c y) (c x) = v at *
        clear hcx
        go_wp2_with fail
        go_region_held3 (fun w' => w'.cell? ⟨b, off + q, none⟩ = some (.int .i64 y) ∧ w'.cell? ⟨b, off + k, none⟩ = some (.int .i64 x))
          (first | exact ⟨HR.out.get _ _ KK.out.2.2.1 _ KK.out.1, HR.out.get _ _ KK.out.2.2.2 _ KK.out.2.1⟩ | exact ⟨HR0.out.get _ _ KK.out.2.2.1 _ KK.out.1, HR0.out.get _ _ KK.out.2.2.2 _ KK.out.2.1⟩)
          (first | (go_at_call 36; refine (HV.out _ HR.out.2.2.1).mono ?_; rintro e w' ⟨rfl, hb'⟩; replace HR := hid (HR.out.step HC.out hb'); clear hb'))
        go_wp2_with fail
        go_roundg (k - s)
        case measure => rw [HG.out]; omega
        case rel => exact ⟨s, k, rfl, rfl, hs0, k1, by omega, rfl, H.out.1, fun k' a1 a2 => HM.out.1 k' a1 a2 HX2.out, HR.out⟩
      · have hv : ¬ cmpI (c y) (c x) < 0 := fun h => hcx ((cmpI_lt _ _).1 h)
        have HV := hid (fun W (h : G W) => HC.out.call W y x HPos.out.1 HPos.out.2 h)
        have HX2 := hid (fun h => hcx (HL.out.1 h))
        generalize cmpI (c y) (c x) = v at *
        clear hcx
        have hv2 : decide (v < 0) = false := decide_eq_false hv
        go_wp2_with fail
        go_region_held3 (fun w' => w'.cell? ⟨b, off + q, none⟩ = some (.int .i64 y) ∧ w'.cell? ⟨b, off + k, none⟩ = some (.int .i64 x))
          (first | exact ⟨HR.out.get _ _ KK.out.2.2.1 _ KK.out.1, HR.out.get _ _ KK.out.2.2.2 _ KK.out.2.1⟩ | exact ⟨HR0.out.get _ _ KK.out.2.2.1 _ KK.out.1, HR0.out.get _ _ KK.out.2.2.2 _ KK.out.2.1⟩)
          (first | (go_at_call 36; refine (HV.out _ HR.out.2.2.1).mono ?_; rintro e w' ⟨rfl, hb'⟩; replace HR := hid (HR.out.step HC.out hb'); clear hb'))
        go_wp2_with fail
        go_roundg (r - (k + 1))
        case measure => rw [HG.out]; omega
        case rel => exact ⟨k + 1, r, by go_num, rfl, by omega, by omega, hr0, rfl, fun k' a1 a2 hl => HX2.out (HM.out.2 k' a1 (by omega) hl), H.out.2.1, HR.out⟩
    · -- the look is at its end
      obtain ⟨e, he⟩ : ∃ e, e = mid + m - s := ⟨_, rfl⟩
      have hez : IntKind.i64.wrap ((mid : Int) + (m : Int) - (s : Int)) = (e : Int) := by rw [IntKind.wrap_i64]; omega
      obtain ⟨L1, R1, L2, R2, H1⟩ : ∃ L1 R1 L2 R2, Hid (Y1 = L1 ++ R1 ∧ Y2 = L2 ++ R2 ∧ a + L1.length = s ∧ m + L2.length = e ∧ (∀ x ∈ R1, ∀ y ∈ L2, c y < c x) ∧ (∀ x ∈ L1, ∀ y ∈ R2, c x ≤ c y)) := by
        have h2 := HY1.out
        have h3 := HY2.out
        have h4 := HCase.out
        obtain ⟨p1, p2, _⟩ := H.out
        have := sym_parts (u := s - a) (u0 := s0 - a) (v0 := r0 - a) HSo.out.1 HSo.out.2 (by omega) (by omega) (by omega) (show r0 - a ≤ mid - a by omega) (by omega) (by omega) (by omega) p1 (fun k a1 a2 => p2 k (by omega) a2)
        refine ⟨Y1.take (s - a), Y1.drop (s - a), Y2.take (mid - a - (s - a)), Y2.drop (mid - a - (s - a)), (List.take_append_drop _ _).symm, (List.take_append_drop _ _).symm, ?_, ?_, this.1, this.2⟩
        · rw [List.length_take]; omega
        · rw [List.length_take]; omega
      have HR : Hid (Row c G b w A (Y1 ++ Y2) B T (L1 ++ (R1 ++ L2) ++ R2) wr) := by
        have := H.out.2.2
        rw [H1.out.1, H1.out.2.1] at this ⊢
        refine hid ?_
        simpa using this
      have HP2 : Hid (∀ y ∈ L1 ++ R1 ++ (L2 ++ R2), 0 < c y) := by have := HP.out; rw [H1.out.1, H1.out.2.1] at this; exact this
      have HB : Hid (L1.length + a = s ∧ R1.length + s = m ∧ L2.length + m = e ∧ R2.length + e = n ∧ A.length = off + a) := by
        have h2 := HY1.out
        have h3 := HY2.out
        obtain ⟨f1, f2, f3, f4, _⟩ := H1.out
        rw [f1, List.length_append] at h2
        rw [f2, List.length_append] at h3
        exact ⟨by omega, by omega, by omega, by omega, HA.out⟩
      have HQ : Hid (Pw c L1 ∧ Pw c R1 ∧ Pw c L2 ∧ Pw c R2) := by
        obtain ⟨f1, f2, _⟩ := H1.out
        have h2 := HSo.out
        rw [f1, f2] at h2
        exact ⟨(List.pairwise_append.1 h2.1).1, (List.pairwise_append.1 h2.1).2.1, (List.pairwise_append.1 h2.2).1, (List.pairwise_append.1 h2.2).2.1⟩
      have b1 : s ≤ m := by omega
      have b2 : m ≤ e := by omega
      have b3 : e ≤ n := by omega
      have b4 : s ≤ mid := by omega
      have b5 : mid ≤ e := by omega
      have b6 : s + e ≤ mid + m := by omega
      have b7 : mid + m ≤ s + e := by omega
      clear he H
      by_cases h1 : s < m ∧ m < e
      · have HCl : Hid (∀ w2, Blk w2 b (A ++ L1 ++ R1 ++ L2 ++ (R2 ++ B)) T → Calls Try.prog 50 #[.slice (some ⟨b, off, none⟩) len cap, .int .i64 s, .int .i64 m, .int .i64 e, .func (.func 36) #[] cb] w2 fun x w' => x = .returned (.tuple #[]) ∧ Blk w' b (A ++ L1 ++ L2 ++ R1 ++ (R2 ++ B)) T ∧ Alt b w2 w') := fun w2 hb =>
          rot_any w2 b off s m e cap len (A ++ L1) R1 L2 (R2 ++ B) T _ hb (by have := HB.out; rw [List.length_append]; omega) (by have := HB.out; omega) (by have := HB.out; omega) (by have := HB.out; omega) (by have := HB.out; omega) (by omega) hlen
        have t7 : (s : Int) < (m : Int) := by omega
        have t8 : (m : Int) < (e : Int) := by omega
        go_wp2_with fail
        refine (HCl.out _ (by have := HR.out.2.1; simpa using this)).mono ?_
        rintro x w2 ⟨rfl, hb2, ha2⟩
        replace HR : Hid (Row c G b w A (Y1 ++ Y2) B T (L1 ++ (L2 ++ R1) ++ R2) w2) := by
          have hr := HR.out
          refine ⟨hr.1.trans ((sw_blocks c L2 R1 (fun y hy => HP2.out y (by simp [hy])) H1.out.2.2.2.2.1).ctx L1 R2), ?_, HC.out.keep _ _ hr.2.2.1 ha2, hr.2.2.2.trans ha2⟩
          simpa using hb2
        clear hb2 ha2
        by_cases h2 : a < s ∧ s < mid
        · have HCl : Hid (∀ w2, Blk w2 b (A ++ (L1 ++ L2) ++ (R1 ++ R2 ++ B)) T → G w2 → Calls Try.prog 47 #[.slice (some ⟨b, off, none⟩) len cap, .int .i64 a, .int .i64 s, .int .i64 mid, .func (.func 36) #[] cb] w2 fun x w' => x = .returned (.tuple #[]) ∧ ∃ X', Pw c X' ∧ Row c G b w2 A (L1 ++ L2) (R1 ++ R2 ++ B) T X' w') := fun w2 hb hg =>
            HIH.out w2 a s mid A L1 L2 (R1 ++ R2 ++ B) (by omega) hb hg HA.out (by have := HB.out; omega) (by have := HB.out; omega) h2.1 h2.2 (by omega) (fun y hy => HP2.out y (by simp only [List.mem_append] at hy ⊢; rcases hy with hy | hy <;> simp [hy])) HQ.out.1 HQ.out.2.2.1
          have t4 : (a : Int) < (s : Int) := by omega
          have t5 : (s : Int) < (mid : Int) := by omega
          go_wp2_with fail
          refine (HCl.out _ (by have := HR.out.2.1; simpa using this) HR.out.2.2.1).mono ?_
          rintro x w3 ⟨rfl, Z1, hz1, hr3⟩
          have HZ1 : Hid (Pw c Z1 ∧ (L1 ++ L2).Perm Z1) := ⟨hz1, hr3.1.perm⟩
          replace HR : Hid (Row c G b w A (Y1 ++ Y2) B T ([] ++ Z1 ++ (R1 ++ R2)) w3) := Row.sub (U := []) (Y := L1 ++ L2) (V := R1 ++ R2) (w1 := w2) (by have := HR.out; simpa using this) (by simpa using hr3)
          clear hr3 hz1
          have h3 : mid < e ∧ e < n := ⟨by omega, by omega⟩
          have HCl : Hid (∀ w2, Blk w2 b (A ++ Z1 ++ (R1 ++ R2) ++ B) T → G w2 → Calls Try.prog 47 #[.slice (some ⟨b, off, none⟩) len cap, .int .i64 mid, .int .i64 e, .int .i64 n, .func (.func 36) #[] cb] w2 fun x w' => x = .returned (.tuple #[]) ∧ ∃ X', Pw c X' ∧ Row c G b w2 (A ++ Z1) (R1 ++ R2) B T X' w') := fun w2 hb hg =>
            HIH.out w2 mid e n (A ++ Z1) R1 R2 B (by omega) hb hg (by have := HB.out; have := HZ1.out.2.length_eq; rw [List.length_append] at this ⊢; omega) (by have := HB.out; omega) (by have := HB.out; omega) h3.1 h3.2 hl (fun y hy => HP2.out y (by simp only [List.mem_append] at hy ⊢; rcases hy with hy | hy <;> simp [hy])) HQ.out.2.1 HQ.out.2.2.2
          have t1 : (mid : Int) < (e : Int) := by omega
          have t2 : (e : Int) < (n : Int) := by omega
          go_wp2_with fail
          refine (HCl.out _ (by have := HR.out.2.1; simpa using this) HR.out.2.2.1).mono ?_
          rintro x w4 ⟨rfl, Z2, hz2, hr4⟩
          have HZ2 : Hid (Pw c Z2 ∧ (R1 ++ R2).Perm Z2) := ⟨hz2, hr4.1.perm⟩
          replace HR : Hid (Row c G b w A (Y1 ++ Y2) B T (Z1 ++ Z2 ++ []) w4) := Row.sub (U := Z1) (Y := R1 ++ R2) (V := []) (w1 := w3) (by have := HR.out; simpa using this) (by simpa using hr4)
          clear hr4 hz2
          go_wp2_with fail
          go_end0
          obtain ⟨f1, f2, _, _, f5, f6⟩ := H1.out
          refine ⟨rfl, Z1 ++ Z2, ?_, by simpa using HR.out⟩
          have h2 := HSo.out
          rw [f1, f2] at h2
          exact sym_whole h2.1 h2.2 f5 f6 HZ1.out.1 HZ2.out.1 HZ1.out.2 HZ2.out.2
        · obtain ⟨Z1, HZ1, hz1⟩ : ∃ Z1, Hid (Pw c Z1 ∧ (L1 ++ L2).Perm Z1) ∧ Hid (Z1 = L1 ++ L2) := by
            refine ⟨L1 ++ L2, ⟨?_, .refl _⟩, rfl⟩
            have := HB.out
            by_cases h4 : a < s
            · exact pw_left HQ.out.1 (List.eq_nil_of_length_eq_zero (by omega))
            · exact pw_right HQ.out.2.2.1 (List.eq_nil_of_length_eq_zero (by omega))
          replace HR : Hid (Row c G b w A (Y1 ++ Y2) B T ([] ++ Z1 ++ (R1 ++ R2)) w2) := by have := HR.out; rw [hz1.out]; refine hid ?_; simpa using this
          have t4 : ¬ (a : Int) < (s : Int) := by omega
          have t6 : decide ((a : Int) < (s : Int)) = false := decide_eq_false t4
          by_cases h3 : mid < e ∧ e < n
          · have HCl : Hid (∀ w2, Blk w2 b (A ++ Z1 ++ (R1 ++ R2) ++ B) T → G w2 → Calls Try.prog 47 #[.slice (some ⟨b, off, none⟩) len cap, .int .i64 mid, .int .i64 e, .int .i64 n, .func (.func 36) #[] cb] w2 fun x w' => x = .returned (.tuple #[]) ∧ ∃ X', Pw c X' ∧ Row c G b w2 (A ++ Z1) (R1 ++ R2) B T X' w') := fun w2 hb hg =>
              HIH.out w2 mid e n (A ++ Z1) R1 R2 B (by omega) hb hg (by have := HB.out; have := HZ1.out.2.length_eq; rw [List.length_append] at this ⊢; omega) (by have := HB.out; omega) (by have := HB.out; omega) h3.1 h3.2 hl (fun y hy => HP2.out y (by simp only [List.mem_append] at hy ⊢; rcases hy with hy | hy <;> simp [hy])) HQ.out.2.1 HQ.out.2.2.2
            have t1 : (mid : Int) < (e : Int) := by omega
            have t2 : (e : Int) < (n : Int) := by omega
            go_wp2_with fail
            refine (HCl.out _ (by have := HR.out.2.1; simpa using this) HR.out.2.2.1).mono ?_
            rintro x w4 ⟨rfl, Z2, hz2, hr4⟩
            have HZ2 : Hid (Pw c Z2 ∧ (R1 ++ R2).Perm Z2) := ⟨hz2, hr4.1.perm⟩
            replace HR : Hid (Row c G b w A (Y1 ++ Y2) B T (Z1 ++ Z2 ++ []) w4) := Row.sub (U := Z1) (Y := R1 ++ R2) (V := []) (w1 := w2) (by have := HR.out; simpa using this) (by simpa using hr4)
            clear hr4 hz2
            go_wp2_with fail
            go_end0
            obtain ⟨f1, f2, _, _, f5, f6⟩ := H1.out
            refine ⟨rfl, Z1 ++ Z2, ?_, by simpa using HR.out⟩
            have h2 := HSo.out
            rw [f1, f2] at h2
            exact sym_whole h2.1 h2.2 f5 f6 HZ1.out.1 HZ2.out.1 HZ1.out.2 HZ2.out.2
          · obtain ⟨Z2, HZ2, hz2⟩ : ∃ Z2, Hid (Pw c Z2 ∧ (R1 ++ R2).Perm Z2) ∧ Hid (Z2 = R1 ++ R2) := by
              refine ⟨R1 ++ R2, ⟨?_, .refl _⟩, rfl⟩
              have := HB.out
              by_cases h4 : mid < e
              · exact pw_left HQ.out.2.1 (List.eq_nil_of_length_eq_zero (by omega))
              · exact pw_right HQ.out.2.2.2 (List.eq_nil_of_length_eq_zero (by omega))
            replace HR : Hid (Row c G b w A (Y1 ++ Y2) B T (Z1 ++ Z2 ++ []) w2) := by have := HR.out; rw [hz2.out]; refine hid ?_; simpa using this
            have t1 : (mid : Int) < (e : Int) := by omega
            have t2 : ¬ (e : Int) < (n : Int) := by omega
            have t3 : decide ((e : Int) < (n : Int)) = false := decide_eq_false t2
            go_wp2_with fail
            go_end0
            obtain ⟨f1, f2, _, _, f5, f6⟩ := H1.out
            refine ⟨rfl, Z1 ++ Z2, ?_, by simpa using HR.out⟩
            have h2 := HSo.out
            rw [f1, f2] at h2
            exact sym_whole h2.1 h2.2 f5 f6 HZ1.out.1 HZ2.out.1 HZ1.out.2 HZ2.out.2
      · replace HR : Hid (Row c G b w A (Y1 ++ Y2) B T (L1 ++ (L2 ++ R1) ++ R2) wr) := by
          have hr := HR.out
          have := HB.out
          by_cases h4 : s < m
          · have e : L2 = [] := List.eq_nil_of_length_eq_zero (by omega)
            rw [e] at hr ⊢; refine hid ?_; simpa using hr
          · have e : R1 = [] := List.eq_nil_of_length_eq_zero (by omega)
            rw [e] at hr ⊢; refine hid ?_; simpa using hr
        by_cases h4 : s < m
        · have t7 : (s : Int) < (m : Int) := by omega
          have t8 : ¬ (m : Int) < (e : Int) := by omega
          have t9 : decide ((m : Int) < (e : Int)) = false := decide_eq_false t8
          exfalso; have := HCase.out; omega
        · have t7 : ¬ (s : Int) < (m : Int) := by omega
          have t9 : decide ((s : Int) < (m : Int)) = false := decide_eq_false t7
          by_cases h2 : a < s ∧ s < mid
          · have HCl : Hid (∀ w2, Blk w2 b (A ++ (L1 ++ L2) ++ (R1 ++ R2 ++ B)) T → G w2 → Calls Try.prog 47 #[.slice (some ⟨b, off, none⟩) len cap, .int .i64 a, .int .i64 s, .int .i64 mid, .func (.func 36) #[] cb] w2 fun x w' => x = .returned (.tuple #[]) ∧ ∃ X', Pw c X' ∧ Row c G b w2 A (L1 ++ L2) (R1 ++ R2 ++ B) T X' w') := fun w2 hb hg =>
              HIH.out w2 a s mid A L1 L2 (R1 ++ R2 ++ B) (by omega) hb hg HA.out (by have := HB.out; omega) (by have := HB.out; omega) h2.1 h2.2 (by omega) (fun y hy => HP2.out y (by simp only [List.mem_append] at hy ⊢; rcases hy with hy | hy <;> simp [hy])) HQ.out.1 HQ.out.2.2.1
            have t4 : (a : Int) < (s : Int) := by omega
            have t5 : (s : Int) < (mid : Int) := by omega
            go_wp2_with fail
            refine (HCl.out _ (by have := HR.out.2.1; simpa using this) HR.out.2.2.1).mono ?_
            rintro x w3 ⟨rfl, Z1, hz1, hr3⟩
            have HZ1 : Hid (Pw c Z1 ∧ (L1 ++ L2).Perm Z1) := ⟨hz1, hr3.1.perm⟩
            replace HR : Hid (Row c G b w A (Y1 ++ Y2) B T ([] ++ Z1 ++ (R1 ++ R2)) w3) := Row.sub (U := []) (Y := L1 ++ L2) (V := R1 ++ R2) (w1 := wr) (by have := HR.out; simpa using this) (by simpa using hr3)
            clear hr3 hz1
            have h3 : ¬ (mid < e ∧ e < n) := fun h => by omega
            obtain ⟨Z2, HZ2, hz2⟩ : ∃ Z2, Hid (Pw c Z2 ∧ (R1 ++ R2).Perm Z2) ∧ Hid (Z2 = R1 ++ R2) := by
              refine ⟨R1 ++ R2, ⟨?_, .refl _⟩, rfl⟩
              have := HB.out
              by_cases h4 : mid < e
              · exact pw_left HQ.out.2.1 (List.eq_nil_of_length_eq_zero (by omega))
              · exact pw_right HQ.out.2.2.2 (List.eq_nil_of_length_eq_zero (by omega))
            replace HR : Hid (Row c G b w A (Y1 ++ Y2) B T (Z1 ++ Z2 ++ []) w3) := by have := HR.out; rw [hz2.out]; refine hid ?_; simpa using this
            have t1 : ¬ (mid : Int) < (e : Int) := by omega
            have t3 : decide ((mid : Int) < (e : Int)) = false := decide_eq_false t1
            go_wp2_with fail
            go_end0
            obtain ⟨f1, f2, _, _, f5, f6⟩ := H1.out
            refine ⟨rfl, Z1 ++ Z2, ?_, by simpa using HR.out⟩
            have h2 := HSo.out
            rw [f1, f2] at h2
            exact sym_whole h2.1 h2.2 f5 f6 HZ1.out.1 HZ2.out.1 HZ1.out.2 HZ2.out.2
          · obtain ⟨Z1, HZ1, hz1⟩ : ∃ Z1, Hid (Pw c Z1 ∧ (L1 ++ L2).Perm Z1) ∧ Hid (Z1 = L1 ++ L2) := by
              refine ⟨L1 ++ L2, ⟨?_, .refl _⟩, rfl⟩
              have := HB.out
              by_cases h4 : a < s
              · exact pw_left HQ.out.1 (List.eq_nil_of_length_eq_zero (by omega))
              · exact pw_right HQ.out.2.2.1 (List.eq_nil_of_length_eq_zero (by omega))
            replace HR : Hid (Row c G b w A (Y1 ++ Y2) B T ([] ++ Z1 ++ (R1 ++ R2)) wr) := by have := HR.out; rw [hz1.out]; refine hid ?_; simpa using this
            have t4 : (a : Int) < (s : Int) := by omega
            have t5 : ¬ (s : Int) < (mid : Int) := by omega
            have t6 : decide ((s : Int) < (mid : Int)) = false := decide_eq_false t5
            have h3 : ¬ (mid < e ∧ e < n) := fun h => by omega
            obtain ⟨Z2, HZ2, hz2⟩ : ∃ Z2, Hid (Pw c Z2 ∧ (R1 ++ R2).Perm Z2) ∧ Hid (Z2 = R1 ++ R2) := by
              refine ⟨R1 ++ R2, ⟨?_, .refl _⟩, rfl⟩
              have := HB.out
              by_cases h4 : mid < e
              · exact pw_left HQ.out.2.1 (List.eq_nil_of_length_eq_zero (by omega))
              · exact pw_right HQ.out.2.2.2 (List.eq_nil_of_length_eq_zero (by omega))
            replace HR : Hid (Row c G b w A (Y1 ++ Y2) B T (Z1 ++ Z2 ++ []) wr) := by have := HR.out; rw [hz2.out]; refine hid ?_; simpa using this
            have t1 : ¬ (mid : Int) < (e : Int) := by omega
            have t3 : decide ((mid : Int) < (e : Int)) = false := decide_eq_false t1
            go_wp2_with fail
            go_end0
            obtain ⟨f1, f2, _, _, f5, f6⟩ := H1.out
            refine ⟨rfl, Z1 ++ Z2, ?_, by simpa using HR.out⟩
            have h2 := HSo.out
            rw [f1, f2] at h2
            exact sym_whole h2.1 h2.2 f5 f6 HZ1.out.1 HZ2.out.1 HZ1.out.2 HZ2.out.2
end Od
end Go.Proofs.Ytoknfhjclpdihaa
