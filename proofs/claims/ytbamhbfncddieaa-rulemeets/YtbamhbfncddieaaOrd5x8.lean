import Derived.Test.YtbamhbfncddieaaOrd2x4
namespace Go.Proofs.Ytbamhbfncddieaa
namespace Od
open Go.RowKit

theorem Pw.at {c : Int → Int} {l : List Int} (h : Pw c l) (i j : Nat) (hij : i ≤ j) (hj : j < l.length) : c (l.getD i 0) ≤ c (l.getD j 0) := by
  rcases Nat.lt_or_eq_of_le hij with h1 | rfl
  · have := List.pairwise_iff_getElem.1 h i j (by omega) hj h1
    simpa [List.getD_eq_getElem?_getD, List.getElem?_eq_getElem hj, List.getElem?_eq_getElem (show i < l.length by omega)] using this
  · exact Int.le_refl _

/-- The predicate that is looked for. -/
def Lss (c : Int → Int) (Y1 Y2 : List Int) (D k : Nat) : Prop := c (Y2.getD (D - 1 - k) 0) < c (Y1.getD k 0)
theorem Lss.mono {c : Int → Int} {Y1 Y2 : List Int} {D k k' : Nat} (h1 : Pw c Y1) (h2 : Pw c Y2) (hk : k ≤ k') (hy1 : k' < Y1.length) (hy2 : D - 1 - k < Y2.length) (h : Lss c Y1 Y2 D k) : Lss c Y1 Y2 D k' := by
  have a1 := h1.at k k' hk hy1
  have a2 := h2.at (D - 1 - k') (D - 1 - k) (by omega) hy2
  unfold Lss at h ⊢
  omega

theorem mem_take_getD {l : List Int} {n : Nat} {x : Int} (h : x ∈ l.take n) : ∃ i, i < n ∧ i < l.length ∧ l.getD i 0 = x := by
  obtain ⟨i, hi, e⟩ := List.mem_iff_getElem.1 h
  rw [List.length_take] at hi
  refine ⟨i, by omega, by omega, ?_⟩
  rw [List.getElem_take] at e
  simp [List.getD_eq_getElem?_getD, List.getElem?_eq_getElem (show i < l.length by omega), e]
theorem mem_drop_getD {l : List Int} {n : Nat} {x : Int} (h : x ∈ l.drop n) : ∃ i, n ≤ i ∧ i < l.length ∧ l.getD i 0 = x := by
  obtain ⟨i, hi, e⟩ := List.mem_iff_getElem.1 h
  rw [List.length_drop] at hi
  refine ⟨n + i, by omega, by omega, ?_⟩
  rw [List.getElem_drop] at e
  simp [List.getD_eq_getElem?_getD, List.getElem?_eq_getElem (show n + i < l.length by omega), e]

/-- What the look has found: what goes to the other half. -/
theorem sym_parts {c : Int → Int} {Y1 Y2 : List Int} {D u u0 v0 : Nat} (h1 : Pw c Y1) (h2 : Pw c Y2) (hu0 : u0 ≤ u) (huv : u ≤ v0) (hv0 : v0 ≤ Y1.length) (hvD : v0 ≤ D) (hD : D ≤ u0 + Y2.length) (hv : v0 = D ∨ v0 = Y1.length) (hu : u0 = 0 ∨ D = u0 + Y2.length)
    (hlo : ∀ k, u0 ≤ k → k < u → ¬ Lss c Y1 Y2 D k) (hhi : ∀ k, u ≤ k → k < v0 → Lss c Y1 Y2 D k) :
    (∀ x ∈ Y1.drop u, ∀ y ∈ Y2.take (D - u), c y < c x) ∧ (∀ x ∈ Y1.take u, ∀ y ∈ Y2.drop (D - u), c x ≤ c y) := by
  refine ⟨fun x hx y hy => ?_, fun x hx y hy => ?_⟩
  · obtain ⟨i, i1, i2, rfl⟩ := mem_drop_getD hx
    obtain ⟨j, j1, j2, rfl⟩ := mem_take_getD hy
    have h3 := hhi u (Nat.le_refl _) (by omega)
    have a1 := h1.at u i i1 i2
    have a2 := h2.at j (D - 1 - u) (by omega) (by omega)
    unfold Lss at h3
    omega
  · obtain ⟨i, i1, i2, rfl⟩ := mem_take_getD hx
    obtain ⟨j, j1, j2, rfl⟩ := mem_drop_getD hy
    have h3 := hlo (u - 1) (by omega) (by omega)
    have a1 := h1.at i (u - 1) (by omega) (by omega)
    have a2 := h2.at (D - u) j j1 j2
    unfold Lss at h3
    rw [show D - 1 - (u - 1) = D - u by omega] at h3
    omega

theorem Row.sub {c : Int → Int} {G : World → Prop} {b : Nat} {w w1 w2 : World} {A X B U Y V Y' : List Int} {T : List Value} (h : Row c G b w A X B T (U ++ Y ++ V) w1) (h' : Row c G b w1 (A ++ U) Y (V ++ B) T Y' w2) : Row c G b w A X B T (U ++ Y' ++ V) w2 := by
  refine ⟨h.1.trans (h'.1.ctx U V), ?_, h'.2.2.1, h.2.2.2.trans h'.2.2.2⟩
  have := h'.2.1
  simpa using this
theorem Row.blk {c : Int → Int} {G : World → Prop} {b : Nat} {w w1 : World} {A X B U Y V : List Int} {T : List Value} (h : Row c G b w A X B T (U ++ Y ++ V) w1) : Blk w1 b (A ++ U ++ Y ++ (V ++ B)) T := by
  have := h.2.1
  simpa using this

/-- Both halves, each in order, make the whole. -/
theorem sym_whole {c : Int → Int} {L1 R1 L2 R2 Z1 Z2 : List Int} (h1 : Pw c (L1 ++ R1)) (h2 : Pw c (L2 ++ R2)) (h3 : ∀ x ∈ R1, ∀ y ∈ L2, c y < c x) (h4 : ∀ x ∈ L1, ∀ y ∈ R2, c x ≤ c y) (z1 : Pw c Z1) (z2 : Pw c Z2) (p1 : (L1 ++ L2).Perm Z1) (p2 : (R1 ++ R2).Perm Z2) : Pw c (Z1 ++ Z2) := by
  have a1 := List.pairwise_append.1 h1
  have a2 := List.pairwise_append.1 h2
  refine List.pairwise_append.2 ⟨z1, z2, fun x hx y hy => ?_⟩
  have hx := p1.mem_iff.2 hx
  have hy := p2.mem_iff.2 hy
  rcases List.mem_append.1 hx with hx | hx <;> rcases List.mem_append.1 hy with hy | hy
  · exact a1.2.2 x hx y hy
  · exact h4 x hx y hy
  · exact Int.le_of_lt (h3 y hy x hx)
  · exact a2.2.2 x hx y hy
theorem pw_left {c : Int → Int} {X Y : List Int} (h : Pw c X) (e : Y = []) : Pw c (X ++ Y) := by rw [e, List.append_nil]; exact h
theorem pw_right {c : Int → Int} {X Y : List Int} (h : Pw c Y) (e : X = []) : Pw c (X ++ Y) := by rw [e]; exact h

/-- What symMerge promises of parts that are not longer than N together. -/
def SymOk (c : Int → Int) (G : World → Prop) (cb : Array Value) (b off cap len : Nat) (T : List Value) (N : Nat) : Prop :=
  ∀ (w : World) (a m n : Nat) (A Y1 Y2 B : List Int), n - a ≤ N → Blk w b (A ++ (Y1 ++ Y2) ++ B) T → G w → A.length = off + a → a + Y1.length = m → m + Y2.length = n → a < m → m < n → n ≤ len → (∀ y ∈ Y1 ++ Y2, 0 < c y) → Pw c Y1 → Pw c Y2 →
    Calls Try.prog 115 #[.slice (some ⟨b, off, none⟩) len cap, .int .i64 a, .int .i64 m, .int .i64 n, .func (.func 112) #[] cb] w fun e w' => e = .returned (.tuple #[]) ∧ ∃ X', Pw c X' ∧ Row c G b w A (Y1 ++ Y2) B T X' w'

end Od
end Go.Proofs.Ytbamhbfncddieaa

namespace Go.Proofs.Ytbamhbfncddieaa
namespace Od
open Go.RowKit

set_option maxHeartbeats 8000000 in
set_option maxRecDepth 100000 in
theorem sym3_hi_any {c : Int → Int} {G : World → Prop} {cb : Array Value} (b off cap len : Nat) (T : List Value) (N : Nat) (hC : Cmp c G b cb) (hlen : len < 1000000000000) (ih : SymOk c G cb b off cap len T N)
    (w : World) (a m n : Nat) (A Y1 Y2 B : List Int) (hN : n - a ≤ N + 1) (h : Blk w b (A ++ (Y1 ++ Y2) ++ B) T) (hG : G w) (hA : A.length = off + a) (hY1 : a + Y1.length = m) (hY2 : m + Y2.length = n) (ham : a + 1 < m) (hmn : m + 1 < n) (hl : n ≤ len) (hpos : ∀ y ∈ Y1 ++ Y2, 0 < c y) (hs1 : Pw c Y1) (hs2 : Pw c Y2)
    (mid s0 r0 : Nat) (hmid : ((a : Int) + (n : Int)) / 2 = (mid : Int)) (hcase : mid < m ∧ s0 + n = mid + m ∧ r0 = mid) :
    Calls Try.prog 115 #[.slice (some ⟨b, off, none⟩) len cap, .int .i64 a, .int .i64 m, .int .i64 n, .func (.func 112) #[] cb] w fun e w' => e = .returned (.tuple #[]) ∧ ∃ X', Pw c X' ∧ Row c G b w A (Y1 ++ Y2) B T X' w' := by
  have HC := hid hC
  have HIH := hid ih
  have HA := hid hA
  have HY1 := hid hY1
  have HY2 := hid hY2
  have HP := hid hpos
  have HSo := hid (And.intro hs1 hs2)
  have HS : Hid (Row c G b w A (Y1 ++ Y2) B T (Y1 ++ Y2) w) := ⟨.refl _, h, hG, Alt.refl _ _⟩
  have HCase := hid hcase
  have hb1 : a < mid := by omega
  have hb2 : mid < n := by omega
  have hb3 : a ≤ s0 := by omega
  have hb4 : s0 ≤ r0 := by omega
  have hb5 : r0 ≤ m := by omega
  have hb6 : r0 ≤ mid := by omega
  have hb7 : mid + m ≤ s0 + n := by omega
  have e1 : IntKind.i64.wrap ((n : Int) - (m : Int)) = ((n - m : Nat) : Int) := by rw [IntKind.wrap_i64]; omega
  have e2 : IntKind.i64.wrap ((m : Int) - (a : Int)) = ((m - a : Nat) : Int) := by rw [IntKind.wrap_i64]; omega
  have e3 : ¬ ((m - a : Nat) : Int) = 1 := by omega
  have e4 : (((m - a : Nat) : Int) == 1) = false := by simpa using e3
  have e5 : ¬ ((n - m : Nat) : Int) = 1 := by omega
  have e6 : (((n - m : Nat) : Int) == 1) = false := by simpa using e5
  have hgt : (mid : Int) < (m : Int) := by omega
  have hr1 : mid ≤ r0 := by omega
  have d1 : IntKind.i64.wrap ((mid : Int) + (m : Int) - (n : Int)) = (s0 : Int) := by rw [IntKind.wrap_i64]; omega
  clear hC ih hA hY1 hY2 hpos h hG hs1 hs2 hcase
  go_enter Try.func115, Try.ntmps115
  go_wp2_with fail
  go_loopg [20, 21] (r0 - s0) (fun g vs vr wr => ∃ s r : Nat, vs = .int .i64 s ∧ vr = .int .i64 r ∧ s0 ≤ s ∧ s ≤ r ∧ r ≤ r0 ∧ g = r - s ∧ Hid ((∀ k, s0 - a ≤ k → k < s - a → ¬ Lss c Y1 Y2 (mid - a) k) ∧ (∀ k, r - a ≤ k → k < r0 - a → Lss c Y1 Y2 (mid - a) k) ∧ Row c G b w A (Y1 ++ Y2) B T (Y1 ++ Y2) wr))
  case atStart => exact ⟨s0, r0, by first | rfl | (congr 1; omega), by first | rfl | (congr 1; omega), Nat.le_refl _, hb4, Nat.le_refl _, rfl, fun k h1 h2 => by omega, fun k h1 h2 => by omega, HS.out⟩
  case round =>
    obtain ⟨s, r, rfl, rfl, hs0, hsr, hr0, hg, H⟩ := hrel
    have HG := hid hg
    clear hg HS e1 e2 e3 e4 e5 e6 d1 hgt
    have g1 : IntKind.i64.wrap ((mid : Int) + (m : Int) - 1 ) = ((mid + m - 1 : Nat) : Int) := by rw [IntKind.wrap_i64]; omega
    by_cases hlt : s < r
    · obtain ⟨k, hk⟩ : ∃ k, k = (s + r) / 2 := ⟨_, rfl⟩
      have k1 : s ≤ k := by omega
      have k2 : k < r := by omega
      have hkz : ((s : Int) + (r : Int)) / 2 = (k : Int) := by omega
      clear hk
      have HR0 := hid H.out.2.2
      have HR : Hid (Row c G b w A (Y1 ++ Y2) B T (Y1 ++ Y2) wr.drew) := H.out.2.2.step HC.out ((Below.refl _ _).drew)
      obtain ⟨q, hq⟩ : ∃ q, q = mid + m - 1 - k := ⟨_, rfl⟩
      have hqz : IntKind.i64.wrap (((mid + m - 1 : Nat) : Int) - (k : Int)) = (q : Int) := by rw [IntKind.wrap_i64]; omega
      have hqz' : IntKind.i64.wrap ((mid : Int) + (m : Int) - 1 - (k : Int)) = (q : Int) := by rw [IntKind.wrap_i64]; omega
      have KK : Hid (off + q = A.length + (q - a) ∧ off + k = A.length + (k - a) ∧ (Y1 ++ Y2)[q - a]? = some (Y2.getD (mid - a - 1 - (k - a)) 0) ∧ (Y1 ++ Y2)[k - a]? = some (Y1.getD (k - a) 0)) := by
        have h1 := HA.out
        have h2 := HY1.out
        have h3 := HY2.out
        refine ⟨by omega, by omega, ?_, ?_⟩
        · rw [List.getElem?_append_right (by omega), List.getElem?_eq_getElem (show q - a - Y1.length < Y2.length by omega)]
          rw [List.getD_eq_getElem?_getD, show mid - a - 1 - (k - a) = q - a - Y1.length by omega, List.getElem?_eq_getElem (show q - a - Y1.length < Y2.length by omega)]
          rfl
        · rw [List.getElem?_append_left (by omega), List.getElem?_eq_getElem (show k - a < Y1.length by omega)]
          rw [List.getD_eq_getElem?_getD, List.getElem?_eq_getElem (show k - a < Y1.length by omega)]
          rfl
      have HL : Hid (Lss c Y1 Y2 (mid - a) (k - a) ↔ c (Y2.getD (mid - a - 1 - (k - a)) 0) < c (Y1.getD (k - a) 0)) := Iff.rfl
      have HM : Hid ((∀ k', k - a ≤ k' → k' < r0 - a → Lss c Y1 Y2 (mid - a) (k - a) → Lss c Y1 Y2 (mid - a) k') ∧ (∀ k', s0 - a ≤ k' → k' ≤ k - a → Lss c Y1 Y2 (mid - a) k' → Lss c Y1 Y2 (mid - a) (k - a))) := by
        have h2 := HY1.out
        have h3 := HY2.out
        exact ⟨fun k' a1 a2 hl => Lss.mono HSo.out.1 HSo.out.2 a1 (by omega) (by omega) hl, fun k' a1 a2 hl => Lss.mono HSo.out.1 HSo.out.2 a2 (by omega) (by omega) hl⟩
      have z1 : (k : Int) < (len : Int) := by omega
      have z2 : (q : Int) < (len : Int) := by omega
      clear hq
      generalize Y2.getD (mid - a - 1 - (k - a)) 0 = y at *
      generalize Y1.getD (k - a) 0 = x at *
      have HPos : Hid (0 < c y ∧ 0 < c x) := ⟨HR.out.pos HP.out y (List.mem_of_getElem? KK.out.2.2.1), HR.out.pos HP.out x (List.mem_of_getElem? KK.out.2.2.2)⟩
      by_cases hcx : c y < c x
      · have hv : cmpI (c y) (c x) < 0 := (cmpI_lt _ _).2 hcx
        have HV := hid (fun W (h : G W) => HC.out.call W y x HPos.out.1 HPos.out.2 h)
        have HX2 := hid (HL.out.2 hcx)
        generalize cmpI (c y) (c x) = v at *
        clear hcx
        go_wp2_with fail
        go_region_held3 (fun w' => w'.cell? ⟨b, off + q, none⟩ = some (.int .i32 y) ∧ w'.cell? ⟨b, off + k, none⟩ = some (.int .i32 x))
          (first | exact ⟨HR.out.get _ _ KK.out.2.2.1 _ KK.out.1, HR.out.get _ _ KK.out.2.2.2 _ KK.out.2.1⟩ | exact ⟨HR0.out.get _ _ KK.out.2.2.1 _ KK.out.1, HR0.out.get _ _ KK.out.2.2.2 _ KK.out.2.1⟩)
          (first | (go_at_call 112; refine (HV.out _ HR.out.2.2.1).mono ?_; rintro e w' ⟨rfl, hb'⟩; replace HR := hid (HR.out.step HC.out hb'); clear hb'))
        go_wp2_with fail
        go_roundg (k - s)
        case measure => rw [HG.out]; omega
        case rel => exact ⟨s, k, rfl, rfl, hs0, k1, by omega, rfl, H.out.1, fun k' a1 a2 => HM.out.1 k' a1 a2 HX2.out, HR.out⟩
      · have hv : ¬ cmpI (c y) (c x) < 0 := fun h => hcx ((cmpI_lt _ _).1 h)
        have HV := hid (fun W (h : G W) => HC.out.call W y x HPos.out.1 HPos.out.2 h)
        have HX2 := hid (fun h => hcx (HL.out.1 h))
        generalize cmpI (c y) (c x) = v at *
        clear hcx
        have hv2 : decide (v < 0) = false := decide_eq_false hv
        go_wp2_with fail
        go_region_held3 (fun w' => w'.cell? ⟨b, off + q, none⟩ = some (.int .i32 y) ∧ w'.cell? ⟨b, off + k, none⟩ = some (.int .i32 x))
          (first | exact ⟨HR.out.get _ _ KK.out.2.2.1 _ KK.out.1, HR.out.get _ _ KK.out.2.2.2 _ KK.out.2.1⟩ | exact ⟨HR0.out.get _ _ KK.out.2.2.1 _ KK.out.1, HR0.out.get _ _ KK.out.2.2.2 _ KK.out.2.1⟩)
          (first | (go_at_call 112; refine (HV.out _ HR.out.2.2.1).mono ?_; rintro e w' ⟨rfl, hb'⟩; replace HR := hid (HR.out.step HC.out hb'); clear hb'))
        go_wp2_with fail
        go_roundg (r - (k + 1))
        case measure => rw [HG.out]; omega
        case rel => exact ⟨k + 1, r, by go_num, rfl, by omega, by omega, hr0, rfl, fun k' a1 a2 hl => HX2.out (HM.out.2 k' a1 (by omega) hl), H.out.2.1, HR.out⟩
    · -- the look is at its end
      obtain ⟨e, he⟩ : ∃ e, e = mid + m - s := ⟨_, rfl⟩
      have hez : IntKind.i64.wrap ((mid : Int) + (m : Int) - (s : Int)) = (e : Int) := by rw [IntKind.wrap_i64]; omega
      obtain ⟨L1, R1, L2, R2, H1⟩ : ∃ L1 R1 L2 R2, Hid (Y1 = L1 ++ R1 ∧ Y2 = L2 ++ R2 ∧ a + L1.length = s ∧ m + L2.length = e ∧ (∀ x ∈ R1, ∀ y ∈ L2, c y < c x) ∧ (∀ x ∈ L1, ∀ y ∈ R2, c x ≤ c y)) := by
        have h2 := HY1.out
        have h3 := HY2.out
        have h4 := HCase.out
        obtain ⟨p1, p2, _⟩ := H.out
        have := sym_parts (u := s - a) (u0 := s0 - a) (v0 := r0 - a) HSo.out.1 HSo.out.2 (by omega) (by omega) (by omega) (show r0 - a ≤ mid - a by omega) (by omega) (by omega) (by omega) p1 (fun k a1 a2 => p2 k (by omega) a2)
        refine ⟨Y1.take (s - a), Y1.drop (s - a), Y2.take (mid - a - (s - a)), Y2.drop (mid - a - (s - a)), (List.take_append_drop _ _).symm, (List.take_append_drop _ _).symm, ?_, ?_, this.1, this.2⟩
        · rw [List.length_take]; omega
        · rw [List.length_take]; omega
      have HR : Hid (Row c G b w A (Y1 ++ Y2) B T (L1 ++ (R1 ++ L2) ++ R2) wr) := by
        have := H.out.2.2
        rw [H1.out.1, H1.out.2.1] at this ⊢
        refine hid ?_
        simpa using this
      have HP2 : Hid (∀ y ∈ L1 ++ R1 ++ (L2 ++ R2), 0 < c y) := by have := HP.out; rw [H1.out.1, H1.out.2.1] at this; exact this
      have HB : Hid (L1.length + a = s ∧ R1.length + s = m ∧ L2.length + m = e ∧ R2.length + e = n ∧ A.length = off + a) := by
        have h2 := HY1.out
        have h3 := HY2.out
        obtain ⟨f1, f2, f3, f4, _⟩ := H1.out
        rw [f1, List.length_append] at h2
        rw [f2, List.length_append] at h3
        exact ⟨by omega, by omega, by omega, by omega, HA.out⟩
      have HQ : Hid (Pw c L1 ∧ Pw c R1 ∧ Pw c L2 ∧ Pw c R2) := by
        obtain ⟨f1, f2, _⟩ := H1.out
        have h2 := HSo.out
        rw [f1, f2] at h2
        exact ⟨(List.pairwise_append.1 h2.1).1, (List.pairwise_append.1 h2.1).2.1, (List.pairwise_append.1 h2.2).1, (List.pairwise_append.1 h2.2).2.1⟩
      have b1 : s ≤ m := by omega
      have b2 : m ≤ e := by omega
      have b3 : e ≤ n := by omega
      have b4 : s ≤ mid := by omega
      have b5 : mid ≤ e := by omega
      have b6 : s + e ≤ mid + m := by omega
      have b7 : mid + m ≤ s + e := by omega
      clear he H
      by_cases h1 : s < m ∧ m < e
      · have HCl : Hid (∀ w2, Blk w2 b (A ++ L1 ++ R1 ++ L2 ++ (R2 ++ B)) T → Calls Try.prog 117 #[.slice (some ⟨b, off, none⟩) len cap, .int .i64 s, .int .i64 m, .int .i64 e, .func (.func 112) #[] cb] w2 fun x w' => x = .returned (.tuple #[]) ∧ Blk w' b (A ++ L1 ++ L2 ++ R1 ++ (R2 ++ B)) T ∧ Alt b w2 w') := fun w2 hb =>
          rot_any w2 b off s m e cap len (A ++ L1) R1 L2 (R2 ++ B) T _ hb (by have := HB.out; rw [List.length_append]; omega) (by have := HB.out; omega) (by have := HB.out; omega) (by have := HB.out; omega) (by have := HB.out; omega) (by omega) hlen
        have t7 : (s : Int) < (m : Int) := by omega
        have t8 : (m : Int) < (e : Int) := by omega
        go_wp2_with fail
        refine (HCl.out _ (by have := HR.out.2.1; simpa using this)).mono ?_
        rintro x w2 ⟨rfl, hb2, ha2⟩
        replace HR : Hid (Row c G b w A (Y1 ++ Y2) B T (L1 ++ (L2 ++ R1) ++ R2) w2) := by
          have hr := HR.out
          refine ⟨hr.1.trans ((sw_blocks c L2 R1 (fun y hy => HP2.out y (by simp [hy])) H1.out.2.2.2.2.1).ctx L1 R2), ?_, HC.out.keep _ _ hr.2.2.1 ha2, hr.2.2.2.trans ha2⟩
          simpa using hb2
        clear hb2 ha2
        by_cases h2 : a < s ∧ s < mid
        · have HCl : Hid (∀ w2, Blk w2 b (A ++ (L1 ++ L2) ++ (R1 ++ R2 ++ B)) T → G w2 → Calls Try.prog 115 #[.slice (some ⟨b, off, none⟩) len cap, .int .i64 a, .int .i64 s, .int .i64 mid, .func (.func 112) #[] cb] w2 fun x w' => x = .returned (.tuple #[]) ∧ ∃ X', Pw c X' ∧ Row c G b w2 A (L1 ++ L2) (R1 ++ R2 ++ B) T X' w') := fun w2 hb hg =>
            HIH.out w2 a s mid A L1 L2 (R1 ++ R2 ++ B) (by omega) hb hg HA.out (by have := HB.out; omega) (by have := HB.out; omega) h2.1 h2.2 (by omega) (fun y hy => HP2.out y (by simp only [List.mem_append] at hy ⊢; rcases hy with hy | hy <;> simp [hy])) HQ.out.1 HQ.out.2.2.1
          have t4 : (a : Int) < (s : Int) := by omega
          have t5 : (s : Int) < (mid : Int) := by omega
          go_wp2_with fail
          refine (HCl.out _ (by have := HR.out.2.1; simpa using this) HR.out.2.2.1).mono ?_
          rintro x w3 ⟨rfl, Z1, hz1, hr3⟩
          have HZ1 : Hid (Pw c Z1 ∧ (L1 ++ L2).Perm Z1) := ⟨hz1, hr3.1.perm⟩
          replace HR : Hid (Row c G b w A (Y1 ++ Y2) B T ([] ++ Z1 ++ (R1 ++ R2)) w3) := Row.sub (U := []) (Y := L1 ++ L2) (V := R1 ++ R2) (w1 := w2) (by have := HR.out; simpa using this) (by simpa using hr3)
          clear hr3 hz1
          by_cases h3 : mid < e ∧ e < n
          · have HCl : Hid (∀ w2, Blk w2 b (A ++ Z1 ++ (R1 ++ R2) ++ B) T → G w2 → Calls Try.prog 115 #[.slice (some ⟨b, off, none⟩) len cap, .int .i64 mid, .int .i64 e, .int .i64 n, .func (.func 112) #[] cb] w2 fun x w' => x = .returned (.tuple #[]) ∧ ∃ X', Pw c X' ∧ Row c G b w2 (A ++ Z1) (R1 ++ R2) B T X' w') := fun w2 hb hg =>
              HIH.out w2 mid e n (A ++ Z1) R1 R2 B (by omega) hb hg (by have := HB.out; have := HZ1.out.2.length_eq; rw [List.length_append] at this ⊢; omega) (by have := HB.out; omega) (by have := HB.out; omega) h3.1 h3.2 hl (fun y hy => HP2.out y (by simp only [List.mem_append] at hy ⊢; rcases hy with hy | hy <;> simp [hy])) HQ.out.2.1 HQ.out.2.2.2
            have t1 : (mid : Int) < (e : Int) := by omega
            have t2 : (e : Int) < (n : Int) := by omega
            go_wp2_with fail
            refine (HCl.out _ (by have := HR.out.2.1; simpa using this) HR.out.2.2.1).mono ?_
            rintro x w4 ⟨rfl, Z2, hz2, hr4⟩
            have HZ2 : Hid (Pw c Z2 ∧ (R1 ++ R2).Perm Z2) := ⟨hz2, hr4.1.perm⟩
            replace HR : Hid (Row c G b w A (Y1 ++ Y2) B T (Z1 ++ Z2 ++ []) w4) := Row.sub (U := Z1) (Y := R1 ++ R2) (V := []) (w1 := w3) (by have := HR.out; simpa using this) (by simpa using hr4)
            clear hr4 hz2
            go_wp2_with fail
            go_end0
            obtain ⟨f1, f2, _, _, f5, f6⟩ := H1.out
            refine ⟨rfl, Z1 ++ Z2, ?_, by simpa using HR.out⟩
            have h2 := HSo.out
            rw [f1, f2] at h2
            exact sym_whole h2.1 h2.2 f5 f6 HZ1.out.1 HZ2.out.1 HZ1.out.2 HZ2.out.2
          · obtain ⟨Z2, HZ2, hz2⟩ : ∃ Z2, Hid (Pw c Z2 ∧ (R1 ++ R2).Perm Z2) ∧ Hid (Z2 = R1 ++ R2) := by
              refine ⟨R1 ++ R2, ⟨?_, .refl _⟩, rfl⟩
              have := HB.out
              by_cases h4 : mid < e
              · exact pw_left HQ.out.2.1 (List.eq_nil_of_length_eq_zero (by omega))
              · exact pw_right HQ.out.2.2.2 (List.eq_nil_of_length_eq_zero (by omega))
            replace HR : Hid (Row c G b w A (Y1 ++ Y2) B T (Z1 ++ Z2 ++ []) w3) := by have := HR.out; rw [hz2.out]; refine hid ?_; simpa using this
            have t1 : (mid : Int) < (e : Int) := by omega
            have t2 : ¬ (e : Int) < (n : Int) := by omega
            have t3 : decide ((e : Int) < (n : Int)) = false := decide_eq_false t2
            go_wp2_with fail
            go_end0
            obtain ⟨f1, f2, _, _, f5, f6⟩ := H1.out
            refine ⟨rfl, Z1 ++ Z2, ?_, by simpa using HR.out⟩
            have h2 := HSo.out
            rw [f1, f2] at h2
            exact sym_whole h2.1 h2.2 f5 f6 HZ1.out.1 HZ2.out.1 HZ1.out.2 HZ2.out.2
        · obtain ⟨Z1, HZ1, hz1⟩ : ∃ Z1, Hid (Pw c Z1 ∧ (L1 ++ L2).Perm Z1) ∧ Hid (Z1 = L1 ++ L2) := by
            refine ⟨L1 ++ L2, ⟨?_, .refl _⟩, rfl⟩
            have := HB.out
            by_cases h4 : a < s
            · exact pw_left HQ.out.1 (List.eq_nil_of_length_eq_zero (by omega))
            · exact pw_right HQ.out.2.2.1 (List.eq_nil_of_length_eq_zero (by omega))
          replace HR : Hid (Row c G b w A (Y1 ++ Y2) B T ([] ++ Z1 ++ (R1 ++ R2)) w2) := by have := HR.out; rw [hz1.out]; refine hid ?_; simpa using this
          have t4 : ¬ (a : Int) < (s : Int) := by omega
          have t6 : decide ((a : Int) < (s : Int)) = false := decide_eq_false t4
          by_cases h3 : mid < e ∧ e < n
          · have HCl : Hid (∀ w2, Blk w2 b (A ++ Z1 ++ (R1 ++ R2) ++ B) T → G w2 → Calls Try.prog 115 #[.slice (some ⟨b, off, none⟩) len cap, .int .i64 mid, .int .i64 e, .int .i64 n, .func (.func 112) #[] cb] w2 fun x w' => x = .returned (.tuple #[]) ∧ ∃ X', Pw c X' ∧ Row c G b w2 (A ++ Z1) (R1 ++ R2) B T X' w') := fun w2 hb hg =>
              HIH.out w2 mid e n (A ++ Z1) R1 R2 B (by omega) hb hg (by have := HB.out; have := HZ1.out.2.length_eq; rw [List.length_append] at this ⊢; omega) (by have := HB.out; omega) (by have := HB.out; omega) h3.1 h3.2 hl (fun y hy => HP2.out y (by simp only [List.mem_append] at hy ⊢; rcases hy with hy | hy <;> simp [hy])) HQ.out.2.1 HQ.out.2.2.2
            have t1 : (mid : Int) < (e : Int) := by omega
            have t2 : (e : Int) < (n : Int) := by omega
            go_wp2_with fail
            refine (HCl.out _ (by have := HR.out.2.1; simpa using this) HR.out.2.2.1).mono ?_
            rintro x w4 ⟨rfl, Z2, hz2, hr4⟩
            have HZ2 : Hid (Pw c Z2 ∧ (R1 ++ R2).Perm Z2) := ⟨hz2, hr4.1.perm⟩
            replace HR : Hid (Row c G b w A (Y1 ++ Y2) B T (Z1 ++ Z2 ++ []) w4) := Row.sub (U := Z1) (Y := R1 ++ R2) (V := []) (w1 := w2) (by have := HR.out; simpa using this) (by simpa using hr4)
            clear hr4 hz2
            go_wp2_with fail
            go_end0
            obtain ⟨f1, f2, _, _, f5, f6⟩ := H1.out
            refine ⟨rfl, Z1 ++ Z2, ?_, by simpa using HR.out⟩
            have h2 := HSo.out
            rw [f1, f2] at h2
            exact sym_whole h2.1 h2.2 f5 f6 HZ1.out.1 HZ2.out.1 HZ1.out.2 HZ2.out.2
          · obtain ⟨Z2, HZ2, hz2⟩ : ∃ Z2, Hid (Pw c Z2 ∧ (R1 ++ R2).Perm Z2) ∧ Hid (Z2 = R1 ++ R2) := by
              refine ⟨R1 ++ R2, ⟨?_, .refl _⟩, rfl⟩
              have := HB.out
              by_cases h4 : mid < e
              · exact pw_left HQ.out.2.1 (List.eq_nil_of_length_eq_zero (by omega))
              · exact pw_right HQ.out.2.2.2 (List.eq_nil_of_length_eq_zero (by omega))
            replace HR : Hid (Row c G b w A (Y1 ++ Y2) B T (Z1 ++ Z2 ++ []) w2) := by have := HR.out; rw [hz2.out]; refine hid ?_; simpa using this
            have t1 : (mid : Int) < (e : Int) := by omega
            have t2 : ¬ (e : Int) < (n : Int) := by omega
            have t3 : decide ((e : Int) < (n : Int)) = false := decide_eq_false t2
            go_wp2_with fail
            go_end0
            obtain ⟨f1, f2, _, _, f5, f6⟩ := H1.out
            refine ⟨rfl, Z1 ++ Z2, ?_, by simpa using HR.out⟩
            have h2 := HSo.out
            rw [f1, f2] at h2
            exact sym_whole h2.1 h2.2 f5 f6 HZ1.out.1 HZ2.out.1 HZ1.out.2 HZ2.out.2
      · replace HR : Hid (Row c G b w A (Y1 ++ Y2) B T (L1 ++ (L2 ++ R1) ++ R2) wr) := by
          have hr := HR.out
          have := HB.out
          by_cases h4 : s < m
          · have e : L2 = [] := List.eq_nil_of_length_eq_zero (by omega)
            rw [e] at hr ⊢; refine hid ?_; simpa using hr
          · have e : R1 = [] := List.eq_nil_of_length_eq_zero (by omega)
            rw [e] at hr ⊢; refine hid ?_; simpa using hr
        by_cases h4 : s < m
        · have t7 : (s : Int) < (m : Int) := by omega
          have t8 : ¬ (m : Int) < (e : Int) := by omega
          have t9 : decide ((m : Int) < (e : Int)) = false := decide_eq_false t8
          have h2 : ¬ (a < s ∧ s < mid) := fun h => by omega
          obtain ⟨Z1, HZ1, hz1⟩ : ∃ Z1, Hid (Pw c Z1 ∧ (L1 ++ L2).Perm Z1) ∧ Hid (Z1 = L1 ++ L2) := by
            refine ⟨L1 ++ L2, ⟨?_, .refl _⟩, rfl⟩
            have := HB.out
            by_cases h4 : a < s
            · exact pw_left HQ.out.1 (List.eq_nil_of_length_eq_zero (by omega))
            · exact pw_right HQ.out.2.2.1 (List.eq_nil_of_length_eq_zero (by omega))
          replace HR : Hid (Row c G b w A (Y1 ++ Y2) B T ([] ++ Z1 ++ (R1 ++ R2)) wr) := by have := HR.out; rw [hz1.out]; refine hid ?_; simpa using this
          have t4 : (a : Int) < (s : Int) := by omega
          have t5 : ¬ (s : Int) < (mid : Int) := by omega
          have t6 : decide ((s : Int) < (mid : Int)) = false := decide_eq_false t5
          have h3 : mid < e ∧ e < n := ⟨by omega, by omega⟩
          have HCl : Hid (∀ w2, Blk w2 b (A ++ Z1 ++ (R1 ++ R2) ++ B) T → G w2 → Calls Try.prog 115 #[.slice (some ⟨b, off, none⟩) len cap, .int .i64 mid, .int .i64 e, .int .i64 n, .func (.func 112) #[] cb] w2 fun x w' => x = .returned (.tuple #[]) ∧ ∃ X', Pw c X' ∧ Row c G b w2 (A ++ Z1) (R1 ++ R2) B T X' w') := fun w2 hb hg =>
            HIH.out w2 mid e n (A ++ Z1) R1 R2 B (by omega) hb hg (by have := HB.out; have := HZ1.out.2.length_eq; rw [List.length_append] at this ⊢; omega) (by have := HB.out; omega) (by have := HB.out; omega) h3.1 h3.2 hl (fun y hy => HP2.out y (by simp only [List.mem_append] at hy ⊢; rcases hy with hy | hy <;> simp [hy])) HQ.out.2.1 HQ.out.2.2.2
          have t1 : (mid : Int) < (e : Int) := by omega
          have t2 : (e : Int) < (n : Int) := by omega
          go_wp2_with fail
          refine (HCl.out _ (by have := HR.out.2.1; simpa using this) HR.out.2.2.1).mono ?_
          rintro x w4 ⟨rfl, Z2, hz2, hr4⟩
          have HZ2 : Hid (Pw c Z2 ∧ (R1 ++ R2).Perm Z2) := ⟨hz2, hr4.1.perm⟩
          replace HR : Hid (Row c G b w A (Y1 ++ Y2) B T (Z1 ++ Z2 ++ []) w4) := Row.sub (U := Z1) (Y := R1 ++ R2) (V := []) (w1 := wr) (by have := HR.out; simpa using this) (by simpa using hr4)
          clear hr4 hz2
          go_wp2_with fail
          go_end0
          obtain ⟨f1, f2, _, _, f5, f6⟩ := H1.out
          refine ⟨rfl, Z1 ++ Z2, ?_, by simpa using HR.out⟩
          have h2 := HSo.out
          rw [f1, f2] at h2
          exact sym_whole h2.1 h2.2 f5 f6 HZ1.out.1 HZ2.out.1 HZ1.out.2 HZ2.out.2
        · have t7 : ¬ (s : Int) < (m : Int) := by omega
          have t9 : decide ((s : Int) < (m : Int)) = false := decide_eq_false t7
          exfalso; have := HCase.out; omega
end Od
end Go.Proofs.Ytbamhbfncddieaa

namespace Go.Proofs.Ytbamhbfncddieaa
namespace Od
open Go.RowKit

set_option maxHeartbeats 8000000 in
set_option maxRecDepth 100000 in
theorem sym3_lo_any {c : Int → Int} {G : World → Prop} {cb : Array Value} (b off cap len : Nat) (T : List Value) (N : Nat) (hC : Cmp c G b cb) (hlen : len < 1000000000000) (ih : SymOk c G cb b off cap len T N)
    (w : World) (a m n : Nat) (A Y1 Y2 B : List Int) (hN : n - a ≤ N + 1) (h : Blk w b (A ++ (Y1 ++ Y2) ++ B) T) (hG : G w) (hA : A.length = off + a) (hY1 : a + Y1.length = m) (hY2 : m + Y2.length = n) (ham : a + 1 < m) (hmn : m + 1 < n) (hl : n ≤ len) (hpos : ∀ y ∈ Y1 ++ Y2, 0 < c y) (hs1 : Pw c Y1) (hs2 : Pw c Y2)
    (mid s0 r0 : Nat) (hmid : ((a : Int) + (n : Int)) / 2 = (mid : Int)) (hcase : m ≤ mid ∧ s0 = a ∧ r0 = m) :
    Calls Try.prog 115 #[.slice (some ⟨b, off, none⟩) len cap, .int .i64 a, .int .i64 m, .int .i64 n, .func (.func 112) #[] cb] w fun e w' => e = .returned (.tuple #[]) ∧ ∃ X', Pw c X' ∧ Row c G b w A (Y1 ++ Y2) B T X' w' := by
  have HC := hid hC
  have HIH := hid ih
  have HA := hid hA
  have HY1 := hid hY1
  have HY2 := hid hY2
  have HP := hid hpos
  have HSo := hid (And.intro hs1 hs2)
  have HS : Hid (Row c G b w A (Y1 ++ Y2) B T (Y1 ++ Y2) w) := ⟨.refl _, h, hG, Alt.refl _ _⟩
  have HCase := hid hcase
  have hb1 : a < mid := by omega
  have hb2 : mid < n := by omega
  have hb3 : a ≤ s0 := by omega
  have hb4 : s0 ≤ r0 := by omega
  have hb5 : r0 ≤ m := by omega
  have hb6 : r0 ≤ mid := by omega
  have hb7 : mid + m ≤ s0 + n := by omega
  have e1 : IntKind.i64.wrap ((n : Int) - (m : Int)) = ((n - m : Nat) : Int) := by rw [IntKind.wrap_i64]; omega
  have e2 : IntKind.i64.wrap ((m : Int) - (a : Int)) = ((m - a : Nat) : Int) := by rw [IntKind.wrap_i64]; omega
  have e3 : ¬ ((m - a : Nat) : Int) = 1 := by omega
  have e4 : (((m - a : Nat) : Int) == 1) = false := by simpa using e3
  have e5 : ¬ ((n - m : Nat) : Int) = 1 := by omega
  have e6 : (((n - m : Nat) : Int) == 1) = false := by simpa using e5
  have hgt : ¬ (mid : Int) < (m : Int) := by omega
  have hr1 : m ≤ r0 := by omega
  have hr2 : s0 ≤ a := by omega
  have d1 : decide ((mid : Int) < (m : Int)) = false := decide_eq_false hgt
  clear hC ih hA hY1 hY2 hpos h hG hs1 hs2 hcase
  go_enter Try.func115, Try.ntmps115
  go_wp2_with fail
  go_loopg [20, 21] (r0 - s0) (fun g vs vr wr => ∃ s r : Nat, vs = .int .i64 s ∧ vr = .int .i64 r ∧ s0 ≤ s ∧ s ≤ r ∧ r ≤ r0 ∧ g = r - s ∧ Hid ((∀ k, s0 - a ≤ k → k < s - a → ¬ Lss c Y1 Y2 (mid - a) k) ∧ (∀ k, r - a ≤ k → k < r0 - a → Lss c Y1 Y2 (mid - a) k) ∧ Row c G b w A (Y1 ++ Y2) B T (Y1 ++ Y2) wr))
  case atStart => exact ⟨s0, r0, by first | rfl | (congr 1; omega), by first | rfl | (congr 1; omega), Nat.le_refl _, hb4, Nat.le_refl _, rfl, fun k h1 h2 => by omega, fun k h1 h2 => by omega, HS.out⟩
  case round =>
    obtain ⟨s, r, rfl, rfl, hs0, hsr, hr0, hg, H⟩ := hrel
    have HG := hid hg
    clear hg HS e1 e2 e3 e4 e5 e6 d1 hgt
    have g1 : IntKind.i64.wrap ((mid : Int) + (m : Int) - 1 ) = ((mid + m - 1 : Nat) : Int) := by rw [IntKind.wrap_i64]; omega
    by_cases hlt : s < r
    · obtain ⟨k, hk⟩ : ∃ k, k = (s + r) / 2 := ⟨_, rfl⟩
      have k1 : s ≤ k := by omega
      have k2 : k < r := by omega
      have hkz : ((s : Int) + (r : Int)) / 2 = (k : Int) := by omega
      clear hk
      have HR0 := hid H.out.2.2
      have HR : Hid (Row c G b w A (Y1 ++ Y2) B T (Y1 ++ Y2) wr.drew) := H.out.2.2.step HC.out ((Below.refl _ _).drew)
      obtain ⟨q, hq⟩ : ∃ q, q = mid + m - 1 - k := ⟨_, rfl⟩
      have hqz : IntKind.i64.wrap (((mid + m - 1 : Nat) : Int) - (k : Int)) = (q : Int) := by rw [IntKind.wrap_i64]; omega
      have hqz' : IntKind.i64.wrap ((mid : Int) + (m : Int) - 1 - (k : Int)) = (q : Int) := by rw [IntKind.wrap_i64]; omega
      have KK : Hid (off + q = A.length + (q - a) ∧ off + k = A.length + (k - a) ∧ (Y1 ++ Y2)[q - a]? = some (Y2.getD (mid - a - 1 - (k - a)) 0) ∧ (Y1 ++ Y2)[k - a]? = some (Y1.getD (k - a) 0)) := by
        have h1 := HA.out
        have h2 := HY1.out
        have h3 := HY2.out
        refine ⟨by omega, by omega, ?_, ?_⟩
        · rw [List.getElem?_append_right (by omega), List.getElem?_eq_getElem (show q - a - Y1.length < Y2.length by omega)]
          rw [List.getD_eq_getElem?_getD, show mid - a - 1 - (k - a) = q - a - Y1.length by omega, List.getElem?_eq_getElem (show q - a - Y1.length < Y2.length by omega)]
          rfl
        · rw [List.getElem?_append_left (by omega), List.getElem?_eq_getElem (show k - a < Y1.length by omega)]
          rw [List.getD_eq_getElem?_getD, List.getElem?_eq_getElem (show k - a < Y1.length by omega)]
          rfl
      have HL : Hid (Lss c Y1 Y2 (mid - a) (k - a) ↔ c (Y2.getD (mid - a - 1 - (k - a)) 0) < c (Y1.getD (k - a) 0)) := Iff.rfl
      have HM : Hid ((∀ k', k - a ≤ k' → k' < r0 - a → Lss c Y1 Y2 (mid - a) (k - a) → Lss c Y1 Y2 (mid - a) k') ∧ (∀ k', s0 - a ≤ k' → k' ≤ k - a → Lss c Y1 Y2 (mid - a) k' → Lss c Y1 Y2 (mid - a) (k - a))) := by
        have h2 := HY1.out
        have h3 := HY2.out
        exact ⟨fun k' a1 a2 hl => Lss.mono HSo.out.1 HSo.out.2 a1 (by omega) (by omega) hl, fun k' a1 a2 hl => Lss.mono HSo.out.1 HSo.out.2 a2 (by omega) (by omega) hl⟩
      have z1 : (k : Int) < (len : Int) := by omega
      have z2 : (q : Int) < (len : Int) := by omega
      clear hq
      generalize Y2.getD (mid - a - 1 - (k - a)) 0 = y at *
      generalize Y1.getD (k - a) 0 = x at *
      have HPos : Hid (0 < c y ∧ 0 < c x) := ⟨HR.out.pos HP.out y (List.mem_of_getElem? KK.out.2.2.1), HR.out.pos HP.out x (List.mem_of_getElem? KK.out.2.2.2)⟩
      by_cases hcx : c y < c x
      · have hv : cmpI (c y) (c x) < 0 := (cmpI_lt _ _).2 hcx
        have HV := hid (fun W (h : G W) => HC.out.call W y x HPos.out.1 HPos.out.2 h)
        have HX2 := hid (HL.out.2 hcx)
        generalize cmpI (c y) (c x) = v at *
        clear hcx
        go_wp2_with fail
        go_region_held3 (fun w' => w'.cell? ⟨b, off + q, none⟩ = some (.int .i32 y) ∧ w'.cell? ⟨b, off + k, none⟩ = some (.int .i32 x))
          (first | exact ⟨HR.out.get _ _ KK.out.2.2.1 _ KK.out.1, HR.out.get _ _ KK.out.2.2.2 _ KK.out.2.1⟩ | exact ⟨HR0.out.get _ _ KK.out.2.2.1 _ KK.out.1, HR0.out.get _ _ KK.out.2.2.2 _ KK.out.2.1⟩)
          (first | (go_at_call 112; refine (HV.out _ HR.out.2.2.1).mono ?_; rintro e w' ⟨rfl, hb'⟩; replace HR := hid (HR.out.step HC.out hb'); clear hb'))
        go_wp2_with fail
        go_roundg (k - s)
        case measure => rw [HG.out]; omega
        case rel => exact ⟨s, k, rfl, rfl, hs0, k1, by omega, rfl, H.out.1, fun k' a1 a2 => HM.out.1 k' a1 a2 HX2.out, HR.out⟩
      · have hv : ¬ cmpI (c y) (c x) < 0 := fun h => hcx ((cmpI_lt _ _).1 h)
        have HV := hid (fun W (h : G W) => HC.out.call W y x HPos.out.1 HPos.out.2 h)
        have HX2 := hid (fun h => hcx (HL.out.1 h))
        generalize cmpI (c y) (c x) = v at *
        clear hcx
        have hv2 : decide (v < 0) = false := decide_eq_false hv
        go_wp2_with fail
        go_region_held3 (fun w' => w'.cell? ⟨b, off + q, none⟩ = some (.int .i32 y) ∧ w'.cell? ⟨b, off + k, none⟩ = some (.int .i32 x))
          (first | exact ⟨HR.out.get _ _ KK.out.2.2.1 _ KK.out.1, HR.out.get _ _ KK.out.2.2.2 _ KK.out.2.1⟩ | exact ⟨HR0.out.get _ _ KK.out.2.2.1 _ KK.out.1, HR0.out.get _ _ KK.out.2.2.2 _ KK.out.2.1⟩)
          (first | (go_at_call 112; refine (HV.out _ HR.out.2.2.1).mono ?_; rintro e w' ⟨rfl, hb'⟩; replace HR := hid (HR.out.step HC.out hb'); clear hb'))
        go_wp2_with fail
        go_roundg (r - (k + 1))
        case measure => rw [HG.out]; omega
        case rel => exact ⟨k + 1, r, by go_num, rfl, by omega, by omega, hr0, rfl, fun k' a1 a2 hl => HX2.out (HM.out.2 k' a1 (by omega) hl), H.out.2.1, HR.out⟩
    · -- the look is at its end
      obtain ⟨e, he⟩ : ∃ e, e = mid + m - s := ⟨_, rfl⟩
      have hez : IntKind.i64.wrap ((mid : Int) + (m : Int) - (s : Int)) = (e : Int) := by rw [IntKind.wrap_i64]; omega
      obtain ⟨L1, R1, L2, R2, H1⟩ : ∃ L1 R1 L2 R2, Hid (Y1 = L1 ++ R1 ∧ Y2 = L2 ++ R2 ∧ a + L1.length = s ∧ m + L2.length = e ∧ (∀ x ∈ R1, ∀ y ∈ L2, c y < c x) ∧ (∀ x ∈ L1, ∀ y ∈ R2, c x ≤ c y)) := by
        have h2 := HY1.out
        have h3 := HY2.out
        have h4 := HCase.out
        obtain ⟨p1, p2, _⟩ := H.out
        have := sym_parts (u := s - a) (u0 := s0 - a) (v0 := r0 - a) HSo.out.1 HSo.out.2 (by omega) (by omega) (by omega) (show r0 - a ≤ mid - a by omega) (by omega) (by omega) (by omega) p1 (fun k a1 a2 => p2 k (by omega) a2)
        refine ⟨Y1.take (s - a), Y1.drop (s - a), Y2.take (mid - a - (s - a)), Y2.drop (mid - a - (s - a)), (List.take_append_drop _ _).symm, (List.take_append_drop _ _).symm, ?_, ?_, this.1, this.2⟩
        · rw [List.length_take]; omega
        · rw [List.length_take]; omega
      have HR : Hid (Row c G b w A (Y1 ++ Y2) B T (L1 ++ (R1 ++ L2) ++ R2) wr) := by
        have := H.out.2.2
        rw [H1.out.1, H1.out.2.1] at this ⊢
        refine hid ?_
        simpa using this
      have HP2 : Hid (∀ y ∈ L1 ++ R1 ++ (L2 ++ R2), 0 < c y) := by have := HP.out; rw [H1.out.1, H1.out.2.1] at this; exact this
      have HB : Hid (L1.length + a = s ∧ R1.length + s = m ∧ L2.length + m = e ∧ R2.length + e = n ∧ A.length = off + a) := by
        have h2 := HY1.out
        have h3 := HY2.out
        obtain ⟨f1, f2, f3, f4, _⟩ := H1.out
        rw [f1, List.length_append] at h2
        rw [f2, List.length_append] at h3
        exact ⟨by omega, by omega, by omega, by omega, HA.out⟩
      have HQ : Hid (Pw c L1 ∧ Pw c R1 ∧ Pw c L2 ∧ Pw c R2) := by
        obtain ⟨f1, f2, _⟩ := H1.out
        have h2 := HSo.out
        rw [f1, f2] at h2
        exact ⟨(List.pairwise_append.1 h2.1).1, (List.pairwise_append.1 h2.1).2.1, (List.pairwise_append.1 h2.2).1, (List.pairwise_append.1 h2.2).2.1⟩
      have b1 : s ≤ m := by omega
      have b2 : m ≤ e := by omega
      have b3 : e ≤ n := by omega
      have b4 : s ≤ mid := by omega
      have b5 : mid ≤ e := by omega
      have b6 : s + e ≤ mid + m := by omega
      have b7 : mid + m ≤ s + e := by omega
      clear he H
      by_cases h1 : s < m ∧ m < e
      · have HCl : Hid (∀ w2, Blk w2 b (A ++ L1 ++ R1 ++ L2 ++ (R2 ++ B)) T → Calls Try.prog 117 #[.slice (some ⟨b, off, none⟩) len cap, .int .i64 s, .int .i64 m, .int .i64 e, .func (.func 112) #[] cb] w2 fun x w' => x = .returned (.tuple #[]) ∧ Blk w' b (A ++ L1 ++ L2 ++ R1 ++ (R2 ++ B)) T ∧ Alt b w2 w') := fun w2 hb =>
          rot_any w2 b off s m e cap len (A ++ L1) R1 L2 (R2 ++ B) T _ hb (by have := HB.out; rw [List.length_append]; omega) (by have := HB.out; omega) (by have := HB.out; omega) (by have := HB.out; omega) (by have := HB.out; omega) (by omega) hlen
        have t7 : (s : Int) < (m : Int) := by omega
        have t8 : (m : Int) < (e : Int) := by omega
        go_wp2_with fail
        refine (HCl.out _ (by have := HR.out.2.1; simpa using this)).mono ?_
        rintro x w2 ⟨rfl, hb2, ha2⟩
        replace HR : Hid (Row c G b w A (Y1 ++ Y2) B T (L1 ++ (L2 ++ R1) ++ R2) w2) := by
          have hr := HR.out
          refine ⟨hr.1.trans ((sw_blocks c L2 R1 (fun y hy => HP2.out y (by simp [hy])) H1.out.2.2.2.2.1).ctx L1 R2), ?_, HC.out.keep _ _ hr.2.2.1 ha2, hr.2.2.2.trans ha2⟩
          simpa using hb2
        clear hb2 ha2
        by_cases h2 : a < s ∧ s < mid
        · have HCl : Hid (∀ w2, Blk w2 b (A ++ (L1 ++ L2) ++ (R1 ++ R2 ++ B)) T → G w2 → Calls Try.prog 115 #[.slice (some ⟨b, off, none⟩) len cap, .int .i64 a, .int .i64 s, .int .i64 mid, .func (.func 112) #[] cb] w2 fun x w' => x = .returned (.tuple #[]) ∧ ∃ X', Pw c X' ∧ Row c G b w2 A (L1 ++ L2) (R1 ++ R2 ++ B) T X' w') := fun w2 hb hg =>
            HIH.out w2 a s mid A L1 L2 (R1 ++ R2 ++ B) (by omega) hb hg HA.out (by have := HB.out; omega) (by have := HB.out; omega) h2.1 h2.2 (by omega) (fun y hy => HP2.out y (by simp only [List.mem_append] at hy ⊢; rcases hy with hy | hy <;> simp [hy])) HQ.out.1 HQ.out.2.2.1
          have t4 : (a : Int) < (s : Int) := by omega
          have t5 : (s : Int) < (mid : Int) := by omega
          go_wp2_with fail
          refine (HCl.out _ (by have := HR.out.2.1; simpa using this) HR.out.2.2.1).mono ?_
          rintro x w3 ⟨rfl, Z1, hz1, hr3⟩
          have HZ1 : Hid (Pw c Z1 ∧ (L1 ++ L2).Perm Z1) := ⟨hz1, hr3.1.perm⟩
          replace HR : Hid (Row c G b w A (Y1 ++ Y2) B T ([] ++ Z1 ++ (R1 ++ R2)) w3) := Row.sub (U := []) (Y := L1 ++ L2) (V := R1 ++ R2) (w1 := w2) (by have := HR.out; simpa using this) (by simpa using hr3)
          clear hr3 hz1
          have h3 : mid < e ∧ e < n := ⟨by omega, by omega⟩
          have HCl : Hid (∀ w2, Blk w2 b (A ++ Z1 ++ (R1 ++ R2) ++ B) T → G w2 → Calls Try.prog 115 #[.slice (some ⟨b, off, none⟩) len cap, .int .i64 mid, .int .i64 e, .int .i64 n, .func (.func 112) #[] cb] w2 fun x w' => x = .returned (.tuple #[]) ∧ ∃ X', Pw c X' ∧ Row c G b w2 (A ++ Z1) (R1 ++ R2) B T X' w') := fun w2 hb hg =>
            HIH.out w2 mid e n (A ++ Z1) R1 R2 B (by omega) hb hg (by have := HB.out; have := HZ1.out.2.length_eq; rw [List.length_append] at this ⊢; omega) (by have := HB.out; omega) (by have := HB.out; omega) h3.1 h3.2 hl (fun y hy => HP2.out y (by simp only [List.mem_append] at hy ⊢; rcases hy with hy | hy <;> simp [hy])) HQ.out.2.1 HQ.out.2.2.2
          have t1 : (mid : Int) < (e : Int) := by omega
          have t2 : (e : Int) < (n : Int) := by omega
          go_wp2_with fail
          refine (HCl.out _ (by have := HR.out.2.1; simpa using this) HR.out.2.2.1).mono ?_
          rintro x w4 ⟨rfl, Z2, hz2, hr4⟩
          have HZ2 : Hid (Pw c Z2 ∧ (R1 ++ R2).Perm Z2) := ⟨hz2, hr4.1.perm⟩
          replace HR : Hid (Row c G b w A (Y1 ++ Y2) B T (Z1 ++ Z2 ++ []) w4) := Row.sub (U := Z1) (Y := R1 ++ R2) (V := []) (w1 := w3) (by have := HR.out; simpa using this) (by simpa using hr4)
          clear hr4 hz2
          go_wp2_with fail
          go_end0
          obtain ⟨f1, f2, _, _, f5, f6⟩ := H1.out
          refine ⟨rfl, Z1 ++ Z2, ?_, by simpa using HR.out⟩
          have h2 := HSo.out
          rw [f1, f2] at h2
          exact sym_whole h2.1 h2.2 f5 f6 HZ1.out.1 HZ2.out.1 HZ1.out.2 HZ2.out.2
        · obtain ⟨Z1, HZ1, hz1⟩ : ∃ Z1, Hid (Pw c Z1 ∧ (L1 ++ L2).Perm Z1) ∧ Hid (Z1 = L1 ++ L2) := by
            refine ⟨L1 ++ L2, ⟨?_, .refl _⟩, rfl⟩
            have := HB.out
            by_cases h4 : a < s
            · exact pw_left HQ.out.1 (List.eq_nil_of_length_eq_zero (by omega))
            · exact pw_right HQ.out.2.2.1 (List.eq_nil_of_length_eq_zero (by omega))
          replace HR : Hid (Row c G b w A (Y1 ++ Y2) B T ([] ++ Z1 ++ (R1 ++ R2)) w2) := by have := HR.out; rw [hz1.out]; refine hid ?_; simpa using this
          have t4 : ¬ (a : Int) < (s : Int) := by omega
          have t6 : decide ((a : Int) < (s : Int)) = false := decide_eq_false t4
          by_cases h3 : mid < e ∧ e < n
          · have HCl : Hid (∀ w2, Blk w2 b (A ++ Z1 ++ (R1 ++ R2) ++ B) T → G w2 → Calls Try.prog 115 #[.slice (some ⟨b, off, none⟩) len cap, .int .i64 mid, .int .i64 e, .int .i64 n, .func (.func 112) #[] cb] w2 fun x w' => x = .returned (.tuple #[]) ∧ ∃ X', Pw c X' ∧ Row c G b w2 (A ++ Z1) (R1 ++ R2) B T X' w') := fun w2 hb hg =>
              HIH.out w2 mid e n (A ++ Z1) R1 R2 B (by omega) hb hg (by have := HB.out; have := HZ1.out.2.length_eq; rw [List.length_append] at this ⊢; omega) (by have := HB.out; omega) (by have := HB.out; omega) h3.1 h3.2 hl (fun y hy => HP2.out y (by simp only [List.mem_append] at hy ⊢; rcases hy with hy | hy <;> simp [hy])) HQ.out.2.1 HQ.out.2.2.2
            have t1 : (mid : Int) < (e : Int) := by omega
            have t2 : (e : Int) < (n : Int) := by omega
            go_wp2_with fail
            refine (HCl.out _ (by have := HR.out.2.1; simpa using this) HR.out.2.2.1).mono ?_
            rintro x w4 ⟨rfl, Z2, hz2, hr4⟩
            have HZ2 : Hid (Pw c Z2 ∧ (R1 ++ R2).Perm Z2) := ⟨hz2, hr4.1.perm⟩
            replace HR : Hid (Row c G b w A (Y1 ++ Y2) B T (Z1 ++ Z2 ++ []) w4) := Row.sub (U := Z1) (Y := R1 ++ R2) (V := []) (w1 := w2) (by have := HR.out; simpa using this) (by simpa using hr4)
            clear hr4 hz2
            go_wp2_with fail
            go_end0
            obtain ⟨f1, f2, _, _, f5, f6⟩ := H1.out
            refine ⟨rfl, Z1 ++ Z2, ?_, by simpa using HR.out⟩
            have h2 := HSo.out
            rw [f1, f2] at h2
            exact sym_whole h2.1 h2.2 f5 f6 HZ1.out.1 HZ2.out.1 HZ1.out.2 HZ2.out.2
          · obtain ⟨Z2, HZ2, hz2⟩ : ∃ Z2, Hid (Pw c Z2 ∧ (R1 ++ R2).Perm Z2) ∧ Hid (Z2 = R1 ++ R2) := by
              refine ⟨R1 ++ R2, ⟨?_, .refl _⟩, rfl⟩
              have := HB.out
              by_cases h4 : mid < e
              · exact pw_left HQ.out.2.1 (List.eq_nil_of_length_eq_zero (by omega))
              · exact pw_right HQ.out.2.2.2 (List.eq_nil_of_length_eq_zero (by omega))
            replace HR : Hid (Row c G b w A (Y1 ++ Y2) B T (Z1 ++ Z2 ++ []) w2) := by have := HR.out; rw [hz2.out]; refine hid ?_; simpa using this
            have t1 : (mid : Int) < (e : Int) := by omega
            have t2 : ¬ (e : Int) < (n : Int) := by omega
            have t3 : decide ((e : Int) < (n : Int)) = false := decide_eq_false t2
            go_wp2_with fail
            go_end0
            obtain ⟨f1, f2, _, _, f5, f6⟩ := H1.out
            refine ⟨rfl, Z1 ++ Z2, ?_, by simpa using HR.out⟩
            have h2 := HSo.out
            rw [f1, f2] at h2
            exact sym_whole h2.1 h2.2 f5 f6 HZ1.out.1 HZ2.out.1 HZ1.out.2 HZ2.out.2
      · replace HR : Hid (Row c G b w A (Y1 ++ Y2) B T (L1 ++ (L2 ++ R1) ++ R2) wr) := by
          have hr := HR.out
          have := HB.out
          by_cases h4 : s < m
          · have e : L2 = [] := List.eq_nil_of_length_eq_zero (by omega)
            rw [e] at hr ⊢; refine hid ?_; simpa using hr
          · have e : R1 = [] := List.eq_nil_of_length_eq_zero (by omega)
            rw [e] at hr ⊢; refine hid ?_; simpa using hr
        by_cases h4 : s < m
        · have t7 : (s : Int) < (m : Int) := by omega
          have t8 : ¬ (m : Int) < (e : Int) := by omega
          have t9 : decide ((m : Int) < (e : Int)) = false := decide_eq_false t8
          exfalso; have := HCase.out; omega
        · have t7 : ¬ (s : Int) < (m : Int) := by omega
          have t9 : decide ((s : Int) < (m : Int)) = false := decide_eq_false t7
          by_cases h2 : a < s ∧ s < mid
          · have HCl : Hid (∀ w2, Blk w2 b (A ++ (L1 ++ L2) ++ (R1 ++ R2 ++ B)) T → G w2 → Calls Try.prog 115 #[.slice (some ⟨b, off, none⟩) len cap, .int .i64 a, .int .i64 s, .int .i64 mid, .func (.func 112) #[] cb] w2 fun x w' => x = .returned (.tuple #[]) ∧ ∃ X', Pw c X' ∧ Row c G b w2 A (L1 ++ L2) (R1 ++ R2 ++ B) T X' w') := fun w2 hb hg =>
              HIH.out w2 a s mid A L1 L2 (R1 ++ R2 ++ B) (by omega) hb hg HA.out (by have := HB.out; omega) (by have := HB.out; omega) h2.1 h2.2 (by omega) (fun y hy => HP2.out y (by simp only [List.mem_append] at hy ⊢; rcases hy with hy | hy <;> simp [hy])) HQ.out.1 HQ.out.2.2.1
            have t4 : (a : Int) < (s : Int) := by omega
            have t5 : (s : Int) < (mid : Int) := by omega
            go_wp2_with fail
            refine (HCl.out _ (by have := HR.out.2.1; simpa using this) HR.out.2.2.1).mono ?_
            rintro x w3 ⟨rfl, Z1, hz1, hr3⟩
            have HZ1 : Hid (Pw c Z1 ∧ (L1 ++ L2).Perm Z1) := ⟨hz1, hr3.1.perm⟩
            replace HR : Hid (Row c G b w A (Y1 ++ Y2) B T ([] ++ Z1 ++ (R1 ++ R2)) w3) := Row.sub (U := []) (Y := L1 ++ L2) (V := R1 ++ R2) (w1 := wr) (by have := HR.out; simpa using this) (by simpa using hr3)
            clear hr3 hz1
            have h3 : ¬ (mid < e ∧ e < n) := fun h => by omega
            obtain ⟨Z2, HZ2, hz2⟩ : ∃ Z2, Hid (Pw c Z2 ∧ (R1 ++ R2).Perm Z2) ∧ Hid (Z2 = R1 ++ R2) := by
              refine ⟨R1 ++ R2, ⟨?_, .refl _⟩, rfl⟩
              have := HB.out
              by_cases h4 : mid < e
              · exact pw_left HQ.out.2.1 (List.eq_nil_of_length_eq_zero (by omega))
              · exact pw_right HQ.out.2.2.2 (List.eq_nil_of_length_eq_zero (by omega))
            replace HR : Hid (Row c G b w A (Y1 ++ Y2) B T (Z1 ++ Z2 ++ []) w3) := by have := HR.out; rw [hz2.out]; refine hid ?_; simpa using this
            have t1 : ¬ (mid : Int) < (e : Int) := by omega
            have t3 : decide ((mid : Int) < (e : Int)) = false := decide_eq_false t1
            go_wp2_with fail
            go_end0
            obtain ⟨f1, f2, _, _, f5, f6⟩ := H1.out
            refine ⟨rfl, Z1 ++ Z2, ?_, by simpa using HR.out⟩
            have h2 := HSo.out
            rw [f1, f2] at h2
            exact sym_whole h2.1 h2.2 f5 f6 HZ1.out.1 HZ2.out.1 HZ1.out.2 HZ2.out.2
          · obtain ⟨Z1, HZ1, hz1⟩ : ∃ Z1, Hid (Pw c Z1 ∧ (L1 ++ L2).Perm Z1) ∧ Hid (Z1 = L1 ++ L2) := by
              refine ⟨L1 ++ L2, ⟨?_, .refl _⟩, rfl⟩
              have := HB.out
              by_cases h4 : a < s
              · exact pw_left HQ.out.1 (List.eq_nil_of_length_eq_zero (by omega))
              · exact pw_right HQ.out.2.2.1 (List.eq_nil_of_length_eq_zero (by omega))
            replace HR : Hid (Row c G b w A (Y1 ++ Y2) B T ([] ++ Z1 ++ (R1 ++ R2)) wr) := by have := HR.out; rw [hz1.out]; refine hid ?_; simpa using this
            have t4 : (a : Int) < (s : Int) := by omega
            have t5 : ¬ (s : Int) < (mid : Int) := by omega
            have t6 : decide ((s : Int) < (mid : Int)) = false := decide_eq_false t5
            have h3 : ¬ (mid < e ∧ e < n) := fun h => by omega
            obtain ⟨Z2, HZ2, hz2⟩ : ∃ Z2, Hid (Pw c Z2 ∧ (R1 ++ R2).Perm Z2) ∧ Hid (Z2 = R1 ++ R2) := by
              refine ⟨R1 ++ R2, ⟨?_, .refl _⟩, rfl⟩
              have := HB.out
              by_cases h4 : mid < e
              · exact pw_left HQ.out.2.1 (List.eq_nil_of_length_eq_zero (by omega))
              · exact pw_right HQ.out.2.2.2 (List.eq_nil_of_length_eq_zero (by omega))
            replace HR : Hid (Row c G b w A (Y1 ++ Y2) B T (Z1 ++ Z2 ++ []) wr) := by have := HR.out; rw [hz2.out]; refine hid ?_; simpa using this
            have t1 : ¬ (mid : Int) < (e : Int) := by omega
            have t3 : decide ((mid : Int) < (e : Int)) = false := decide_eq_false t1
            go_wp2_with fail
            go_end0
            obtain ⟨f1, f2, _, _, f5, f6⟩ := H1.out
            refine ⟨rfl, Z1 ++ Z2, ?_, by simpa using HR.out⟩
            have h2 := HSo.out
            rw [f1, f2] at h2
            exact sym_whole h2.1 h2.2 f5 f6 HZ1.out.1 HZ2.out.1 HZ1.out.2 HZ2.out.2
end Od
end Go.Proofs.Ytbamhbfncddieaa

namespace Go.Proofs.Ytbamhbfncddieaa
namespace Od
open Go.RowKit

theorem sym_any {c : Int → Int} {G : World → Prop} {cb : Array Value} (b off cap len : Nat) (T : List Value) (hC : Cmp c G b cb) (hlen : len < 1000000000000) : ∀ N, SymOk c G cb b off cap len T N
  | 0 => fun w a m n A Y1 Y2 B hN h hG hA hY1 hY2 ham hmn hl hpos hs1 hs2 => by omega
  | N + 1 => fun w a m n A Y1 Y2 B hN h hG hA hY1 hY2 ham hmn hl hpos hs1 hs2 => by
    by_cases h1 : m = a + 1
    · match Y1, hY1 with
      | [], hY1 => simp at hY1; omega
      | [x], hY1 => exact sym1_any w b off a m n cap len hC A x Y2 B T h hG hA h1.symm hY2 hl hlen hpos hs2
      | x :: y :: l, hY1 => simp at hY1; omega
    · by_cases h2 : n = m + 1
      · match Y2, hY2 with
        | [], hY2 => simp at hY2; omega
        | [x], hY2 => exact sym2_any w b off a m n cap len hC A x Y1 B T h hG hA h2.symm hY1 (by omega) hl hlen hpos hs1
        | x :: y :: l, hY2 => simp at hY2; omega
      · by_cases h3 : (a + n) / 2 < m
        · exact sym3_hi_any b off cap len T N hC hlen (sym_any b off cap len T hC hlen N) w a m n A Y1 Y2 B hN h hG hA hY1 hY2 (by omega) (by omega) hl hpos hs1 hs2 ((a + n) / 2) ((a + n) / 2 + m - n) ((a + n) / 2) (by omega) ⟨h3, by omega, rfl⟩
        · exact sym3_lo_any b off cap len T N hC hlen (sym_any b off cap len T hC hlen N) w a m n A Y1 Y2 B hN h hG hA hY1 hY2 (by omega) (by omega) hl hpos hs1 hs2 ((a + n) / 2) a m (by omega) ⟨by omega, rfl, rfl⟩

/-- Pieces of one length, each in order; the last may be shorter. -/
def Chs (c : Int → Int) (s : Nat) (Q : List Int) : Prop := ∀ R : List Int → Prop, (∀ l : List Int, l.length ≤ s → Pw c l → R l) → (∀ x l : List Int, x.length = s → Pw c x → R l → R (x ++ l)) → R Q
theorem Chs.last {c : Int → Int} {s : Nat} (l : List Int) (h : l.length ≤ s) (hp : Pw c l) : Chs c s l := fun _ h1 _ => h1 l h hp
theorem Chs.cons {c : Int → Int} {s : Nat} (x l : List Int) (h : x.length = s) (hp : Pw c x) (hl : Chs c s l) : Chs c s (x ++ l) := fun R h1 h2 => h2 x l h hp (hl R h1 h2)
def Full (c : Int → Int) (s : Nat) (P : List Int) : Prop := ∀ R : List Int → Prop, R [] → (∀ P x : List Int, R P → x.length = s → Pw c x → R (P ++ x)) → R P
theorem Full.nil {c : Int → Int} {s : Nat} : Full c s [] := fun _ h _ => h
theorem Full.snoc {c : Int → Int} {s : Nat} (P x : List Int) (hP : Full c s P) (h : x.length = s) (hp : Pw c x) : Full c s (P ++ x) := fun R h1 h2 => h2 P x (hP R h1 h2) h hp
theorem Full.chs {c : Int → Int} {s : Nat} {P : List Int} (h : Full c s P) : ∀ {Q : List Int}, Chs c s Q → Chs c s (P ++ Q) := by
  intro Q hQ
  refine h (fun P => ∀ Q, Chs c s Q → Chs c s (P ++ Q)) (fun Q hQ => hQ) (fun P x ih h hp Q hQ => ?_) Q hQ
  rw [List.append_assoc]
  exact ih _ (.cons x Q h hp hQ)
theorem Chs.split {c : Int → Int} {s : Nat} {Q : List Int} (h : Chs c s Q) : (Q.length ≤ s ∧ Pw c Q) ∨ ∃ x l, Q = x ++ l ∧ x.length = s ∧ Pw c x ∧ Chs c s l := by
  have h2 := h (fun Q => Chs c s Q ∧ ((Q.length ≤ s ∧ Pw c Q) ∨ ∃ x l, Q = x ++ l ∧ x.length = s ∧ Pw c x ∧ Chs c s l)) (fun l h1 hp => ⟨.last l h1 hp, .inl ⟨h1, hp⟩⟩) (fun x l h1 hp ih => ⟨.cons x l h1 hp ih.1, .inr ⟨x, l, rfl, h1, hp, ih.1⟩⟩)
  exact h2.2
theorem Chs.head {c : Int → Int} {s : Nat} {Q : List Int} (h : Chs c s Q) (hs : s ≤ Q.length) : ∃ x Q', Q = x ++ Q' ∧ x.length = s ∧ Pw c x ∧ Chs c s Q' := by
  rcases h.split with ⟨h, hp⟩ | ⟨x, l, e, h, hp, hl⟩
  · exact ⟨Q, [], by simp, by omega, hp, .last [] (Nat.zero_le _) List.Pairwise.nil⟩
  · exact ⟨x, l, e, h, hp, hl⟩
theorem Chs.small {c : Int → Int} {s : Nat} {Q : List Int} (h : Chs c s Q) (hs : Q.length ≤ s) : Pw c Q := by
  rcases h.split with ⟨h, hp⟩ | ⟨x, l, e, h, hp, hl⟩
  · exact hp
  · have : l = [] := List.eq_nil_of_length_eq_zero (by rw [e, List.length_append] at hs; omega)
    rw [e, this, List.append_nil]; exact hp

set_option maxHeartbeats 8000000 in
set_option maxRecDepth 100000 in
theorem stable_any {c : Int → Int} {G : World → Prop} {cb : Array Value} (w : World) (b off cap n : Nat) (hC : Cmp c G b cb) (A X B : List Int) (T : List Value) (h : Blk w b (A ++ X ++ B) T) (hG : G w) (hA : A.length = off) (hX : X.length = n) (hlen : n < 1000000000000)
    (hpos : ∀ x ∈ X, 0 < c x) :
    Calls Try.prog 111 #[.slice (some ⟨b, off, none⟩) n cap, .int .i64 n, .func (.func 112) #[] cb] w fun e w' => e = .returned (.tuple #[]) ∧ ∃ X', Pw c X' ∧ Row c G b w A X B T X' w' := by
  have HA := hid hA
  have HX := hid hX
  have HP := hid hpos
  have HS : Hid (Row c G b w A X B T X w) := ⟨.refl _, h, hG, Alt.refl _ _⟩
  have HI : Hid (∀ (w2 : World) (a m : Nat) (P x Q : List Int), Row c G b w A X B T (P ++ x ++ Q) w2 → P.length = a → a + x.length = m → Calls Try.prog 114 #[.slice (some ⟨b, off, none⟩) n cap, .int .i64 a, .int .i64 m, .func (.func 112) #[] cb] w2 fun e w' => e = .returned (.tuple #[]) ∧ ∃ x', x'.length = x.length ∧ Pw c x' ∧ Row c G b w A X B T (P ++ x' ++ Q) w') := by
    intro w2 a m P x Q hr hP hx
    have h1 := hr.1.len
    simp only [List.length_append] at h1
    refine (isrt_any w2 b off a m cap n hC (A ++ P) x (Q ++ B) T hr.blk hr.2.2.1 (by rw [List.length_append]; omega) hx (by omega) hlen (fun y hy => hr.pos hpos y (by simp [hy]))).mono ?_
    rintro e w' ⟨he, x', hp, hr'⟩
    exact ⟨he, x', hr'.1.len, hp, hr.sub hr'⟩
  have HM : Hid (∀ (w2 : World) (a m k : Nat) (P x y Q : List Int), Row c G b w A X B T (P ++ (x ++ y) ++ Q) w2 → P.length = a → a + x.length = m → m + y.length = k → a < m → m < k → Pw c x → Pw c y → Calls Try.prog 115 #[.slice (some ⟨b, off, none⟩) n cap, .int .i64 a, .int .i64 m, .int .i64 k, .func (.func 112) #[] cb] w2 fun e w' => e = .returned (.tuple #[]) ∧ ∃ x', x'.length = x.length + y.length ∧ Pw c x' ∧ Row c G b w A X B T (P ++ x' ++ Q) w') := by
    intro w2 a m k P x y Q hr hP hx hy ham hmk p1 p2
    have h1 := hr.1.len
    simp only [List.length_append] at h1
    refine (sym_any b off cap n T hC hlen (k - a) w2 a m k (A ++ P) x y (Q ++ B) (Nat.le_refl _) hr.blk hr.2.2.1 (by rw [List.length_append]; omega) hx hy ham hmk (by omega) (fun z hz => hr.pos hpos z (by simp only [List.mem_append] at hz ⊢; rcases hz with hz | hz <;> simp [hz])) p1 p2).mono ?_
    rintro e w' ⟨he, x', hp, hr'⟩
    exact ⟨he, x', by rw [hr'.1.len, List.length_append], hp, hr.sub hr'⟩
  clear hC h hG hA hX hpos
  go_enter Try.func111, Try.ntmps111
  go_wp2_with fail
  go_loopg [7, 8] n (fun g va vb wr => ∃ a k : Nat, va = .int .i64 a ∧ vb = .int .i64 k ∧ a ≤ n ∧ a + 20 ≤ k ∧ k ≤ a + 20 ∧ g = n - a ∧ Hid (∃ P Q, P.length = a ∧ Full c 20 P ∧ Row c G b w A X B T (P ++ Q) wr))
  case atStart => exact ⟨0, 20, rfl, rfl, Nat.zero_le _, by omega, by omega, rfl, [], X, rfl, .nil, HS.out⟩
  case round =>
    obtain ⟨a, k, rfl, rfl, han, hk1, hk2, hg, H⟩ := hrel
    have HG := hid hg
    clear hg HS
    by_cases hlt : k ≤ n
    · obtain ⟨P, x, Q, H1⟩ : ∃ P x Q, Hid (P.length = a ∧ x.length = 20 ∧ Full c 20 P ∧ Row c G b w A X B T (P ++ x ++ Q) wr) := by
        obtain ⟨P, Q, e1, e2, e3⟩ := H.out
        have h1 := e3.1.len
        have h2 := HX.out
        rw [List.length_append] at h1
        exact ⟨P, Q.take 20, Q.drop 20, e1, by rw [List.length_take]; omega, e2, by rw [List.append_assoc, List.take_append_drop]; exact e3⟩
      clear H
      have HCl := hid (HI.out wr a k P x Q H1.out.2.2.2 H1.out.1 (by have := H1.out.2.1; omega))
      go_wp2_with fail
      refine HCl.out.mono ?_
      rintro e w2 ⟨rfl, x', hl, hp, hr⟩
      have H2 : Hid (Full c 20 (P ++ x') ∧ (P ++ x').length = k ∧ Row c G b w A X B T (P ++ x' ++ Q) w2) := ⟨.snoc P x' H1.out.2.2.1 (by have := H1.out.2.1; omega) hp, by have := H1.out; rw [List.length_append]; omega, hr⟩
      clear hl hp hr HCl
      go_wp2_with fail
      go_roundg (n - k)
      case measure => rw [HG.out]; omega
      case rel => exact ⟨k, k + 20, rfl, by go_num, hlt, by omega, by omega, rfl, P ++ x', Q, H2.out.2.1, H2.out.1, H2.out.2.2⟩
    · obtain ⟨P, x, H1⟩ : ∃ P x, Hid (P.length = a ∧ a + x.length = n ∧ Full c 20 P ∧ Row c G b w A X B T (P ++ x ++ []) wr) := by
        obtain ⟨P, Q, e1, e2, e3⟩ := H.out
        have h1 := e3.1.len
        have h2 := HX.out
        rw [List.length_append] at h1
        exact ⟨P, Q, e1, by omega, e2, by simpa using e3⟩
      clear H
      have HCl := hid (HI.out wr a n P x [] H1.out.2.2.2 H1.out.1 H1.out.2.1)
      go_wp2_with fail
      refine HCl.out.mono ?_
      rintro e w2 ⟨rfl, x', hl, hp, hr⟩
      have H2 : Hid (∃ Z, Chs c 20 Z ∧ Row c G b w A X B T Z w2) := by
        refine ⟨P ++ x', H1.out.2.2.1.chs (.last x' (by have := H1.out; omega) hp), by simpa using hr⟩
      clear hl hp hr HCl H1 HI
      go_wp2_with fail
      go_loopg [6, 7, 8, 9] (n - 20) (fun g vs va vb vm wr => ∃ s : Nat, vs = .int .i64 s ∧ 20 ≤ s ∧ s ≤ 2 * n + 20 ∧ g = n - s ∧ Hid (∃ Z, Chs c s Z ∧ Row c G b w A X B T Z wr))
      case atStart => exact ⟨20, rfl, Nat.le_refl _, by omega, rfl, H2.out⟩
      case round =>
        clear H2
        obtain ⟨s, rfl, hs1, hs2, hg, H⟩ := hrel
        have HG := hid hg
        clear hg
        by_cases hsn : s < n
        · go_wp2_with fail
          go_loopg [7, 8] n (fun g2 va vb wr => ∃ a k : Nat, va = .int .i64 a ∧ vb = .int .i64 k ∧ a ≤ n ∧ a + 2 * s ≤ k ∧ k ≤ a + 2 * s ∧ g2 = n - a ∧ Hid (∃ P Q, P.length = a ∧ Full c (2 * s) P ∧ Chs c s Q ∧ Row c G b w A X B T (P ++ Q) wr))
          case atStart =>
            obtain ⟨Z, z1, z2⟩ := H.out
            exact ⟨0, 2 * s, rfl, by first | rfl | go_num | (congr 1; omega), Nat.zero_le _, by omega, by omega, rfl, [], Z, rfl, .nil, z1, z2⟩
          case round =>
            clear H
            obtain ⟨a, k, rfl, rfl, han, hk1, hk2, hg2, H⟩ := hrel
            have HG2 := hid hg2
            clear hg2
            have q1 : IntKind.i64.wrap ((a : Int) + (s : Int)) = ((a + s : Nat) : Int) := by rw [IntKind.wrap_i64]; omega
            by_cases hlt : k ≤ n
            · obtain ⟨P, x, y, Q, H1⟩ : ∃ P x y Q, Hid (P.length = a ∧ x.length = s ∧ y.length = s ∧ Full c (2 * s) P ∧ Pw c x ∧ Pw c y ∧ Chs c s Q ∧ Row c G b w A X B T (P ++ (x ++ y) ++ Q) wr) := by
                obtain ⟨P, Q, e1, e2, e3, e4⟩ := H.out
                have h1 := e4.1.len
                have h2 := HX.out
                rw [List.length_append] at h1
                obtain ⟨x, Q1, rfl, x1, x2, x3⟩ := e3.head (by omega)
                rw [List.length_append] at h1
                obtain ⟨y, Q2, rfl, y1, y2, y3⟩ := x3.head (by omega)
                exact ⟨P, x, y, Q2, e1, x1, y1, e2, x2, y2, y3, by simpa using e4⟩
              clear H
              have HCl := hid (HM.out wr a (a + s) k P x y Q H1.out.2.2.2.2.2.2.2 H1.out.1 (by have := H1.out; omega) (by have := H1.out; omega) (by omega) (by omega) H1.out.2.2.2.2.1 H1.out.2.2.2.2.2.1)
              go_wp2_with fail
              refine HCl.out.mono ?_
              rintro e w3 ⟨rfl, x', hl, hp, hr⟩
              have H2 : Hid (Full c (2 * s) (P ++ x') ∧ (P ++ x').length = k ∧ Chs c s Q ∧ Row c G b w A X B T (P ++ x' ++ Q) w3) := ⟨.snoc P x' H1.out.2.2.2.1 (by have := H1.out; omega) hp, by have := H1.out; rw [List.length_append]; omega, H1.out.2.2.2.2.2.2.1, hr⟩
              clear hl hp hr HCl
              have q2 : IntKind.i64.wrap ((k : Int) + 2 * (s : Int)) = ((k + 2 * s : Nat) : Int) := by rw [IntKind.wrap_i64]; omega
              go_wp2_with fail
              go_roundg (n - k)
              case measure => rw [HG2.out]; omega
              case rel => exact ⟨k, k + 2 * s, rfl, by first | rfl | go_num | (congr 1; omega), hlt, by omega, by omega, rfl, P ++ x', Q, H2.out.2.1, H2.out.1, H2.out.2.2.1, H2.out.2.2.2⟩
            · by_cases hms : a + s < n
              · obtain ⟨P, x, y, H1⟩ : ∃ P x y, Hid (P.length = a ∧ x.length = s ∧ a + s + y.length = n ∧ Full c (2 * s) P ∧ Pw c x ∧ Pw c y ∧ Row c G b w A X B T (P ++ (x ++ y) ++ []) wr) := by
                  obtain ⟨P, Q, e1, e2, e3, e4⟩ := H.out
                  have h1 := e4.1.len
                  have h2 := HX.out
                  rw [List.length_append] at h1
                  obtain ⟨x, Q1, rfl, x1, x2, x3⟩ := e3.head (by omega)
                  rw [List.length_append] at h1
                  exact ⟨P, x, Q1, e1, x1, by omega, e2, x2, x3.small (by omega), by simpa using e4⟩
                clear H
                have HCl := hid (HM.out wr a (a + s) n P x y [] H1.out.2.2.2.2.2.2 H1.out.1 (by have := H1.out; omega) (by have := H1.out; omega) (by omega) (by omega) H1.out.2.2.2.2.1 H1.out.2.2.2.2.2.1)
                have q3 : ((a + s : Nat) : Int) < (n : Int) := by omega
                go_wp2_with fail
                refine HCl.out.mono ?_
                rintro e w3 ⟨rfl, x', hl, hp, hr⟩
                have H2 : Hid (∃ Z, Chs c (2 * s) Z ∧ Row c G b w A X B T Z w3) := ⟨P ++ x', H1.out.2.2.2.1.chs (.last x' (by have := H1.out; omega) hp), by simpa using hr⟩
                clear hl hp hr HCl
                go_wp2_with fail
                go_roundg (n - 2 * s)
                case measure => rw [HG.out]; omega
                case rel => exact ⟨2 * s, by first | rfl | go_num | (congr 1; omega), by omega, by omega, rfl, H2.out⟩
              · have H2 : Hid (∃ Z, Chs c (2 * s) Z ∧ Row c G b w A X B T Z wr) := by
                  obtain ⟨P, Q, e1, e2, e3, e4⟩ := H.out
                  have h1 := e4.1.len
                  have h2 := HX.out
                  rw [List.length_append] at h1
                  exact ⟨P ++ Q, e2.chs (.last Q (by omega) (e3.small (by omega))), e4⟩
                have q3 : ¬ ((a + s : Nat) : Int) < (n : Int) := by omega
                clear H
                go_wp2_with fail
                go_roundg (n - 2 * s)
                case measure => rw [HG.out]; omega
                case rel => exact ⟨2 * s, by first | rfl | go_num | (congr 1; omega), by omega, by omega, rfl, H2.out⟩
        · go_wp2_with fail
          go_end0
          obtain ⟨Z, z1, z2⟩ := H.out
          exact ⟨rfl, Z, z1.small (by rw [z2.1.len]; have := HX.out; omega), z2⟩

set_option maxHeartbeats 1000000 in
theorem sstf_any {c : Int → Int} {G : World → Prop} {cb : Array Value} (w : World) (b off cap n : Nat) (hC : Cmp c G b cb) (A X B : List Int) (T : List Value) (h : Blk w b (A ++ X ++ B) T) (hG : G w) (hA : A.length = off) (hX : X.length = n) (hlen : n < 1000000000000)
    (hpos : ∀ x ∈ X, 0 < c x) :
    Calls Try.prog 100 #[.slice (some ⟨b, off, none⟩) n cap, .func (.func 112) #[] cb] w fun e w' => e = .returned (.tuple #[]) ∧ Blk w' b (A ++ srt c X ++ B) T ∧ Alt b w w' := by
  have HS := hid (stable_any w b off cap n hC A X B T h hG hA hX hlen hpos)
  clear hC h hG hA hX hpos
  go_enter Try.func100, Try.ntmps100
  go_wp2_with fail
  refine HS.out.mono ?_
  rintro e w2 ⟨rfl, X', hp, hr⟩
  go_wp2_with fail
  go_end0
  rw [← hr.1.fin hp.ord]
  exact ⟨rfl, hr.2.1, hr.2.2.2⟩

/-! ### Comparisons -/

theorem nan_any (a : Int) (w : World) : Calls Try.prog 116 #[.int .i64 a] w fun e w' => e = .returned (.bool false) ∧ w' = w := by
  go_enter Try.func116, Try.ntmps116
  go_wp2
  go_ret
  exact ⟨by simp, rfl⟩

set_option maxHeartbeats 1000000 in
theorem cmp_any (a b : Int) (w : World) : Calls Try.prog 113 #[.int .i64 a, .int .i64 b] w fun e w' => e = .returned (.int .i64 (cmpI a b)) ∧ w' = w := by
  have HE : Hid (cmpI a b = if a < b then -1 else if b < a then 1 else 0) := rfl
  by_cases h1 : a < b
  · go_enter Try.func113, Try.ntmps113
    go_wp2_with (go_at_call 116; refine (nan_any _ _).mono ?_; rintro e w1 ⟨rfl, rfl⟩)
    go_ret
    exact ⟨ret_int (by rw [HE.out, if_pos h1]), rfl⟩
  · by_cases h2 : b < a
    · go_enter Try.func113, Try.ntmps113
      go_wp2_with (go_at_call 116; refine (nan_any _ _).mono ?_; rintro e w1 ⟨rfl, rfl⟩)
      go_ret
      exact ⟨ret_int (by rw [HE.out, if_neg (by omega), if_pos h2]), rfl⟩
    · go_enter Try.func113, Try.ntmps113
      go_wp2_with (go_at_call 116; refine (nan_any _ _).mono ?_; rintro e w1 ⟨rfl, rfl⟩)
      go_ret
      exact ⟨ret_int (by rw [HE.out, if_neg (by omega), if_neg (by omega)]), rfl⟩
end Od
end Go.Proofs.Ytbamhbfncddieaa
