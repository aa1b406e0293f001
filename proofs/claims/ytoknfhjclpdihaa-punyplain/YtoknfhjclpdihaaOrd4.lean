import Derived.Test.YtoknfhjclpdihaaOrd3
namespace Go.Proofs.Ytoknfhjclpdihaa
namespace Od
open Go.RowKit

theorem Pw.put' {c : Int → Int} {P Q : List Int} {x : Int} (h : Pw c (P ++ Q)) (h1 : ∀ p ∈ P, c p ≤ c x) (h2 : ∀ q ∈ Q, c x ≤ c q) : Pw c (P ++ x :: Q) := by
  unfold Pw at h ⊢
  rw [List.pairwise_append] at h ⊢
  refine ⟨h.1, List.pairwise_cons.2 ⟨h2, h.2.1⟩, fun p hp q hq => ?_⟩
  rcases List.mem_cons.1 hq with rfl | hq
  · exact h1 p hp
  · exact h.2.2 p hp q hq

/-- A list, parted at a place of its middle. -/
theorem mid_part (M : List Int) (k : Nat) (h : k < M.length) : ∃ M1 y M2, M = M1 ++ y :: M2 ∧ M1.length = k := ⟨M.take k, M[k], M.drop (k + 1), by rw [← List.drop_eq_getElem_cons h, List.take_append_drop], by rw [List.length_take]; omega⟩

set_option maxHeartbeats 4000000 in
set_option maxRecDepth 100000 in
theorem sym1_any {c : Int → Int} {G : World → Prop} {cb : Array Value} (w : World) (b off a m n cap len : Nat) (hC : Cmp c G b cb) (A : List Int) (x : Int) (Y B : List Int) (T : List Value) (h : Blk w b (A ++ (x :: Y) ++ B) T) (hG : G w) (hA : A.length = off + a) (hm : a + 1 = m) (hY : m + Y.length = n) (hl : n ≤ len) (hlen : len < 1000000000000)
    (hpos : ∀ y ∈ x :: Y, 0 < c y) (hs : Pw c Y) :
    Calls Try.prog 47 #[.slice (some ⟨b, off, none⟩) len cap, .int .i64 a, .int .i64 m, .int .i64 n, .func (.func 36) #[] cb] w fun e w' => e = .returned (.tuple #[]) ∧ ∃ X', Pw c X' ∧ Row c G b w A (x :: Y) B T X' w' := by
  have HC := hid hC
  have HA := hid hA
  have HY := hid hY
  have HP := hid hpos
  have HSo := hid hs
  have HS : Hid (Row c G b w A (x :: Y) B T (x :: Y) w) := ⟨.refl _, h, hG, Alt.refl _ _⟩
  have hm1 : a + 1 ≤ m := by omega
  have hm2 : m ≤ a + 1 := by omega
  have hmn : m ≤ n := by omega
  have e1 : IntKind.i64.wrap ((m : Int) - (a : Int)) = 1 := by rw [IntKind.wrap_i64]; omega
  clear hC hA hY hpos h hG hs hm
  go_enter Try.func47, Try.ntmps47
  go_wp2_with fail
  go_loopg [10, 11] (n - m) (fun g vi vj wr => ∃ i j : Nat, vi = .int .i64 i ∧ vj = .int .i64 j ∧ m ≤ i ∧ i ≤ j ∧ j ≤ n ∧ g = j - i ∧ Hid ((∃ L M R, Y = L ++ M ++ R ∧ m + L.length = i ∧ i + M.length = j ∧ (∀ y ∈ L, c y < c x) ∧ (∀ y ∈ R, c x ≤ c y)) ∧ Row c G b w A (x :: Y) B T (x :: Y) wr))
  case atStart => exact ⟨m, n, rfl, rfl, by omega, by omega, by omega, rfl, ⟨[], Y, [], by simp, rfl, by have := HY.out; omega, fun y hy => by simp at hy, fun y hy => by simp at hy⟩, HS.out⟩
  case round =>
    obtain ⟨i, j, rfl, rfl, hi, hij, hj, hg, H⟩ := hrel
    have HG := hid hg
    clear hg HS e1
    by_cases hlt : i < j
    · obtain ⟨k, hk⟩ : ∃ k, k = (i + j) / 2 := ⟨_, rfl⟩
      have k1 : i ≤ k := by omega
      have k2 : k < j := by omega
      have hkz : ((i : Int) + (j : Int)) / 2 = (k : Int) := by omega
      clear hk
      obtain ⟨L, M1, y, M2, R, H1⟩ : ∃ L M1 y M2 R, Hid (Y = L ++ (M1 ++ y :: M2) ++ R ∧ m + L.length = i ∧ i + (M1 ++ y :: M2).length = j ∧ (∀ y ∈ L, c y < c x) ∧ (∀ y ∈ R, c x ≤ c y) ∧ M1.length = k - i) := by
        obtain ⟨⟨L, M, R, e1, e2, e3, e4, e5⟩, _⟩ := H.out
        obtain ⟨M1, y, M2, rfl, hl⟩ := mid_part M (k - i) (by omega)
        exact ⟨L, M1, y, M2, R, e1, e2, e3, e4, e5, hl⟩
      have HR0 := hid H.out.2
      have HR : Hid (Row c G b w A (x :: Y) B T (x :: Y) wr.drew) := H.out.2.step HC.out ((Below.refl _ _).drew)
      clear H
      have KK : Hid (off + a = A.length + 0 ∧ off + k = A.length + (k - a) ∧ (x :: Y)[0]? = some x ∧ (x :: Y)[k - a]? = some y) := by
        have h1 := HA.out
        obtain ⟨e1, e2, e3, _, _, e6⟩ := H1.out
        refine ⟨by omega, by omega, rfl, ?_⟩
        rw [show k - a = (k - a - 1) + 1 by omega, List.getElem?_cons_succ, e1]
        rw [List.append_assoc, List.getElem?_append_right (by omega), List.append_assoc, List.getElem?_append_right (by omega)]
        rw [show k - a - 1 - L.length - M1.length = 0 by omega]
        rfl
      have SoY : Hid ((∀ z ∈ M1, c z ≤ c y) ∧ (∀ z ∈ M2, c y ≤ c z)) := by
        have h2 := HSo.out
        obtain ⟨e1, _⟩ := H1.out
        rw [e1] at h2
        have h3 := (List.pairwise_append.1 (List.pairwise_append.1 h2).1).2.1
        have h4 := List.pairwise_append.1 h3
        exact ⟨fun z hz => h4.2.2 z hz y (by simp), fun z hz => (List.pairwise_cons.1 h4.2.1).1 z hz⟩
      have z1 : (k : Int) < (len : Int) := by omega
      have z2 : (a : Int) < (len : Int) := by omega
      have HPos : Hid (0 < c y ∧ 0 < c x) := ⟨HR.out.pos HP.out y (List.mem_of_getElem? KK.out.2.2.2), HR.out.pos HP.out x (List.mem_of_getElem? KK.out.2.2.1)⟩
      by_cases hcx : c y < c x
      · have hv : cmpI (c y) (c x) < 0 := (cmpI_lt _ _).2 hcx
        have HV := hid (fun W (h : G W) => HC.out.call W y x HPos.out.1 HPos.out.2 h)
        have HX2 := hid hcx
        generalize cmpI (c y) (c x) = v at *
        clear hcx
        go_wp2_with fail
        go_region_held3 (fun w' => w'.cell? ⟨b, off + a, none⟩ = some (.int .i64 x) ∧ w'.cell? ⟨b, off + k, none⟩ = some (.int .i64 y))
          (first | exact ⟨HR.out.get _ _ KK.out.2.2.1 _ KK.out.1, HR.out.get _ _ KK.out.2.2.2 _ KK.out.2.1⟩ | exact ⟨HR0.out.get _ _ KK.out.2.2.1 _ KK.out.1, HR0.out.get _ _ KK.out.2.2.2 _ KK.out.2.1⟩)
          (first | (go_at_call 36; refine (HV.out _ HR.out.2.2.1).mono ?_; rintro e w' ⟨rfl, hb'⟩; replace HR := hid (HR.out.step HC.out hb'); clear hb'))
        go_wp2_with fail
        go_roundg (j - (k + 1))
        case measure => rw [HG.out]; omega
        case rel =>
          obtain ⟨e1, e2, e3, e4, e5, e6⟩ := H1.out
          refine ⟨k + 1, j, by go_num, rfl, by omega, by omega, hj, rfl, ⟨L ++ M1 ++ [y], M2, R, by rw [e1]; simp, ?_, ?_, ?_, e5⟩, HR.out⟩
          · simp only [List.length_append, List.length_cons, List.length_nil]; omega
          · simp only [List.length_append, List.length_cons] at e3; omega
          · intro z hz
            simp only [List.mem_append, List.mem_cons, List.not_mem_nil, or_false] at hz
            rcases hz with (hz | hz) | rfl
            · exact e4 z hz
            · have := SoY.out.1 z hz; have := HX2.out; omega
            · exact HX2.out
      · have hv : ¬ cmpI (c y) (c x) < 0 := fun h => hcx ((cmpI_lt _ _).1 h)
        have HV := hid (fun W (h : G W) => HC.out.call W y x HPos.out.1 HPos.out.2 h)
        have HX2 := hid hcx
        generalize cmpI (c y) (c x) = v at *
        clear hcx
        go_wp2_with fail
        go_region_held3 (fun w' => w'.cell? ⟨b, off + a, none⟩ = some (.int .i64 x) ∧ w'.cell? ⟨b, off + k, none⟩ = some (.int .i64 y))
          (first | exact ⟨HR.out.get _ _ KK.out.2.2.1 _ KK.out.1, HR.out.get _ _ KK.out.2.2.2 _ KK.out.2.1⟩ | exact ⟨HR0.out.get _ _ KK.out.2.2.1 _ KK.out.1, HR0.out.get _ _ KK.out.2.2.2 _ KK.out.2.1⟩)
          (first | (go_at_call 36; refine (HV.out _ HR.out.2.2.1).mono ?_; rintro e w' ⟨rfl, hb'⟩; replace HR := hid (HR.out.step HC.out hb'); clear hb'))
        go_wp2_with fail
        go_roundg (k - i)
        case measure => rw [HG.out]; omega
        case rel =>
          obtain ⟨e1, e2, e3, e4, e5, e6⟩ := H1.out
          refine ⟨i, k, rfl, rfl, hi, k1, by omega, rfl, ⟨L, M1, y :: M2 ++ R, by rw [e1]; simp, e2, by omega, e4, ?_⟩, HR.out⟩
          intro z hz
          rcases List.mem_append.1 hz with hz | hz
          · rcases List.mem_cons.1 hz with rfl | hz
            · have := HX2.out; omega
            · have := SoY.out.2 z hz; have := HX2.out; omega
          · exact e5 z hz
    · -- x goes behind those that are less
      obtain ⟨L, R, H1⟩ : ∃ L R, Hid (Y = L ++ R ∧ m + L.length = i ∧ (∀ y ∈ L, c y < c x) ∧ (∀ y ∈ R, c x ≤ c y)) := by
        obtain ⟨⟨L, M, R, e1, e2, e3, e4, e5⟩, _⟩ := H.out
        have : M = [] := List.eq_nil_of_length_eq_zero (by omega)
        subst this
        exact ⟨L, R, by simpa using e1, e2, e4, e5⟩
      have HR0 : Hid (Row c G b w A (x :: Y) B T (x :: (L ++ R)) wr) := by have := H.out.2; rw [H1.out.1] at this ⊢; exact this
      clear H
      have hin : i ≤ n := by omega
      go_wp2_with fail
      go_loopg [13] (i - (a + 1)) (fun g2 vk wr => ∃ k : Nat, vk = .int .i64 k ∧ a ≤ k ∧ k + 1 ≤ i ∧ g2 = i - (k + 1) ∧ Hid (∃ L1 L2, L = L1 ++ L2 ∧ a + L1.length = k ∧ Row c G b w A (x :: Y) B T (L1 ++ x :: (L2 ++ R)) wr))
      case atStart => exact ⟨a, rfl, Nat.le_refl _, by omega, rfl, [], L, rfl, rfl, HR0.out⟩
      case round =>
        obtain ⟨k, rfl, hak, hki, hg2, H2⟩ := hrel
        have HG2 := hid hg2
        clear hg2 HR0
        have e3 : IntKind.i64.wrap ((i : Int) - 1) = ((i - 1 : Nat) : Int) := by rw [IntKind.wrap_i64]; omega
        by_cases hk2 : k + 1 < i
        · obtain ⟨L1, y, L2, H3⟩ : ∃ L1 y L2, Hid (L = L1 ++ y :: L2 ∧ a + L1.length = k ∧ Row c G b w A (x :: Y) B T (L1 ++ x :: y :: (L2 ++ R)) wr) := by
            obtain ⟨L1, L2, e1, e2, e3⟩ := H2.out
            match L2 with
            | [] => have := H1.out.2.1; rw [e1] at this; simp at this; omega
            | y :: L2 => exact ⟨L1, y, L2, e1, e2, e3⟩
          clear H2
          have HY2 : Hid (0 < c y ∧ c y < c x) := by
            refine ⟨HP.out y ?_, H1.out.2.2.1 y (by rw [H3.out.1]; simp)⟩
            rw [H1.out.1, H3.out.1]; simp
          have q1 : off + k = A.length + L1.length := by have := HA.out; have := H3.out.2.1; omega
          have HSW := hid (H3.out.2.2.swap HC.out HY2.out.1 HY2.out.2 (off + k) (off + (k + 1)) q1 rfl)
          have c1 := H3.out.2.2.get L1.length x (by simp) _ q1
          have c2 := H3.out.2.2.get (L1.length + 1) y (by simp) (off + (k + 1)) (by omega)
          have f1 := H3.out.2.2.frozen (off + k)
          have f2 := H3.out.2.2.frozen (off + (k + 1))
          clear q1
          have z1 : (k : Int) + 1 < (len : Int) := by omega
          have z3 : (k : Int) < (len : Int) := by omega
          have z2 : ((k : Int) + 1).toNat = k + 1 := by omega
          have z4 : (k : Int) < ((i - 1 : Nat) : Int) := by omega
          go_wp2_with fail
          go_region
          go_wp2_with fail
          go_roundg (i - (k + 1 + 1))
          case measure => rw [HG2.out]; omega
          case rel =>
            obtain ⟨e1, e2, _⟩ := H3.out
            exact ⟨k + 1, by go_num, by omega, by omega, rfl, L1 ++ [y], L2, by rw [e1]; simp, by simp; omega, by simpa using HSW.out.1⟩
        · have z4 : ¬ (k : Int) < ((i - 1 : Nat) : Int) := by omega
          go_wp2_with fail
          (try simp only [Exit.inBlock, Exit.then])
          refine bodyPost_ret (results_none rfl _ _ _) rfl ?_
          obtain ⟨L1, L2, e1, e2, e3⟩ := H2.out
          obtain ⟨f1, f2, f3, f4⟩ := H1.out
          have : L2 = [] := by
            rw [e1, List.length_append] at f2
            exact List.eq_nil_of_length_eq_zero (by omega)
          subst this
          rw [List.append_nil] at e1
          subst e1
          refine ⟨rfl, L ++ x :: R, Pw.put' ?_ (fun p hp => Int.le_of_lt (f3 p hp)) f4, by simpa using e3⟩
          rw [← f1]; exact HSo.out

set_option maxHeartbeats 4000000 in
set_option maxRecDepth 100000 in
theorem sym2_any {c : Int → Int} {G : World → Prop} {cb : Array Value} (w : World) (b off a m n cap len : Nat) (hC : Cmp c G b cb) (A : List Int) (x : Int) (Y B : List Int) (T : List Value) (h : Blk w b (A ++ (Y ++ [x]) ++ B) T) (hG : G w) (hA : A.length = off + a) (hm : m + 1 = n) (hY : a + Y.length = m) (ham : a + 1 < m) (hl : n ≤ len) (hlen : len < 1000000000000)
    (hpos : ∀ y ∈ Y ++ [x], 0 < c y) (hs : Pw c Y) :
    Calls Try.prog 47 #[.slice (some ⟨b, off, none⟩) len cap, .int .i64 a, .int .i64 m, .int .i64 n, .func (.func 36) #[] cb] w fun e w' => e = .returned (.tuple #[]) ∧ ∃ X', Pw c X' ∧ Row c G b w A (Y ++ [x]) B T X' w' := by
  have HC := hid hC
  have HA := hid hA
  have HY := hid hY
  have HP := hid hpos
  have HSo := hid hs
  have HS : Hid (Row c G b w A (Y ++ [x]) B T (Y ++ [x]) w) := ⟨.refl _, h, hG, Alt.refl _ _⟩
  have hm1 : m + 1 ≤ n := by omega
  have hm2 : n ≤ m + 1 := by omega
  have e1 : IntKind.i64.wrap ((n : Int) - (m : Int)) = 1 := by rw [IntKind.wrap_i64]; omega
  have e2 : IntKind.i64.wrap ((m : Int) - (a : Int)) = ((m - a : Nat) : Int) := by rw [IntKind.wrap_i64]; omega
  have e3 : ¬ ((m - a : Nat) : Int) = 1 := by omega
  have e4 : (((m - a : Nat) : Int) == 1) = false := by simpa using e3
  clear hC hA hY hpos h hG hs hm
  go_enter Try.func47, Try.ntmps47
  go_wp2_with fail
  go_loopg [14, 15] (m - a) (fun g vi vj wr => ∃ i j : Nat, vi = .int .i64 i ∧ vj = .int .i64 j ∧ a ≤ i ∧ i ≤ j ∧ j ≤ m ∧ g = j - i ∧ Hid ((∃ L M R, Y = L ++ M ++ R ∧ a + L.length = i ∧ i + M.length = j ∧ (∀ y ∈ L, c y ≤ c x) ∧ (∀ y ∈ R, c x < c y)) ∧ Row c G b w A (Y ++ [x]) B T (Y ++ [x]) wr))
  case atStart => exact ⟨a, m, rfl, rfl, by omega, by omega, by omega, rfl, ⟨[], Y, [], by simp, rfl, by have := HY.out; omega, fun y hy => by simp at hy, fun y hy => by simp at hy⟩, HS.out⟩
  case round =>
    obtain ⟨i, j, rfl, rfl, hi, hij, hj, hg, H⟩ := hrel
    have HG := hid hg
    clear hg HS e1 e2 e3 e4
    by_cases hlt : i < j
    · obtain ⟨k, hk⟩ : ∃ k, k = (i + j) / 2 := ⟨_, rfl⟩
      have k1 : i ≤ k := by omega
      have k2 : k < j := by omega
      have hkz : ((i : Int) + (j : Int)) / 2 = (k : Int) := by omega
      clear hk
      obtain ⟨L, M1, y, M2, R, H1⟩ : ∃ L M1 y M2 R, Hid (Y = L ++ (M1 ++ y :: M2) ++ R ∧ a + L.length = i ∧ i + (M1 ++ y :: M2).length = j ∧ (∀ y ∈ L, c y ≤ c x) ∧ (∀ y ∈ R, c x < c y) ∧ M1.length = k - i) := by
        obtain ⟨⟨L, M, R, e1, e2, e3, e4, e5⟩, _⟩ := H.out
        obtain ⟨M1, y, M2, rfl, hl⟩ := mid_part M (k - i) (by omega)
        exact ⟨L, M1, y, M2, R, e1, e2, e3, e4, e5, hl⟩
      have HR0 := hid H.out.2
      have HR : Hid (Row c G b w A (Y ++ [x]) B T (Y ++ [x]) wr.drew) := H.out.2.step HC.out ((Below.refl _ _).drew)
      clear H
      have KK : Hid (off + m = A.length + Y.length ∧ off + k = A.length + (k - a) ∧ (Y ++ [x])[Y.length]? = some x ∧ (Y ++ [x])[k - a]? = some y) := by
        have h1 := HA.out
        have h2 := HY.out
        obtain ⟨e1, e2, e3, _, _, e6⟩ := H1.out
        refine ⟨by omega, by omega, by simp, ?_⟩
        rw [List.getElem?_append_left (by omega), e1]
        rw [List.append_assoc, List.getElem?_append_right (by omega), List.append_assoc, List.getElem?_append_right (by omega)]
        rw [show k - a - L.length - M1.length = 0 by omega]
        rfl
      have SoY : Hid ((∀ z ∈ M1, c z ≤ c y) ∧ (∀ z ∈ M2, c y ≤ c z)) := by
        have h2 := HSo.out
        obtain ⟨e1, _⟩ := H1.out
        rw [e1] at h2
        have h3 := (List.pairwise_append.1 (List.pairwise_append.1 h2).1).2.1
        have h4 := List.pairwise_append.1 h3
        exact ⟨fun z hz => h4.2.2 z hz y (by simp), fun z hz => (List.pairwise_cons.1 h4.2.1).1 z hz⟩
      have z1 : (k : Int) < (len : Int) := by omega
      have z2 : (m : Int) < (len : Int) := by omega
      have HPos : Hid (0 < c x ∧ 0 < c y) := ⟨HR.out.pos HP.out x (List.mem_of_getElem? KK.out.2.2.1), HR.out.pos HP.out y (List.mem_of_getElem? KK.out.2.2.2)⟩
      by_cases hcx : c x < c y
      · have hv : cmpI (c x) (c y) < 0 := (cmpI_lt _ _).2 hcx
        have HV := hid (fun W (h : G W) => HC.out.call W x y HPos.out.1 HPos.out.2 h)
        have HX2 := hid hcx
        generalize cmpI (c x) (c y) = v at *
        clear hcx
        go_wp2_with fail
        go_region_held3 (fun w' => w'.cell? ⟨b, off + m, none⟩ = some (.int .i64 x) ∧ w'.cell? ⟨b, off + k, none⟩ = some (.int .i64 y))
          (first | exact ⟨HR.out.get _ _ KK.out.2.2.1 _ KK.out.1, HR.out.get _ _ KK.out.2.2.2 _ KK.out.2.1⟩ | exact ⟨HR0.out.get _ _ KK.out.2.2.1 _ KK.out.1, HR0.out.get _ _ KK.out.2.2.2 _ KK.out.2.1⟩)
          (first | (go_at_call 36; refine (HV.out _ HR.out.2.2.1).mono ?_; rintro e w' ⟨rfl, hb'⟩; replace HR := hid (HR.out.step HC.out hb'); clear hb'))
        go_wp2_with fail
        go_roundg (k - i)
        case measure => rw [HG.out]; omega
        case rel =>
          obtain ⟨e1, e2, e3, e4, e5, e6⟩ := H1.out
          refine ⟨i, k, rfl, rfl, hi, k1, by omega, rfl, ⟨L, M1, y :: M2 ++ R, by rw [e1]; simp, e2, by omega, e4, ?_⟩, HR.out⟩
          intro z hz
          rcases List.mem_append.1 hz with hz | hz
          · rcases List.mem_cons.1 hz with rfl | hz
            · exact HX2.out
            · have := SoY.out.2 z hz; have := HX2.out; omega
          · exact e5 z hz
      · have hv : ¬ cmpI (c x) (c y) < 0 := fun h => hcx ((cmpI_lt _ _).1 h)
        have HV := hid (fun W (h : G W) => HC.out.call W x y HPos.out.1 HPos.out.2 h)
        have HX2 := hid hcx
        generalize cmpI (c x) (c y) = v at *
        clear hcx
        have hv2 : decide (v < 0) = false := decide_eq_false hv
        go_wp2_with fail
        go_region_held3 (fun w' => w'.cell? ⟨b, off + m, none⟩ = some (.int .i64 x) ∧ w'.cell? ⟨b, off + k, none⟩ = some (.int .i64 y))
          (first | exact ⟨HR.out.get _ _ KK.out.2.2.1 _ KK.out.1, HR.out.get _ _ KK.out.2.2.2 _ KK.out.2.1⟩ | exact ⟨HR0.out.get _ _ KK.out.2.2.1 _ KK.out.1, HR0.out.get _ _ KK.out.2.2.2 _ KK.out.2.1⟩)
          (first | (go_at_call 36; refine (HV.out _ HR.out.2.2.1).mono ?_; rintro e w' ⟨rfl, hb'⟩; replace HR := hid (HR.out.step HC.out hb'); clear hb'))
        go_wp2_with fail
        go_roundg (j - (k + 1))
        case measure => rw [HG.out]; omega
        case rel =>
          obtain ⟨e1, e2, e3, e4, e5, e6⟩ := H1.out
          refine ⟨k + 1, j, by go_num, rfl, by omega, by omega, hj, rfl, ⟨L ++ M1 ++ [y], M2, R, by rw [e1]; simp, ?_, ?_, ?_, e5⟩, HR.out⟩
          · simp only [List.length_append, List.length_cons, List.length_nil]; omega
          · simp only [List.length_append, List.length_cons] at e3; omega
          · intro z hz
            simp only [List.mem_append, List.mem_cons, List.not_mem_nil, or_false] at hz
            rcases hz with (hz | hz) | rfl
            · exact e4 z hz
            · have := SoY.out.1 z hz; have := HX2.out; omega
            · have := HX2.out; omega
    · -- x goes ahead of those that are greater
      obtain ⟨L, R, H1⟩ : ∃ L R, Hid (Y = L ++ R ∧ a + L.length = i ∧ (∀ y ∈ L, c y ≤ c x) ∧ (∀ y ∈ R, c x < c y)) := by
        obtain ⟨⟨L, M, R, e1, e2, e3, e4, e5⟩, _⟩ := H.out
        have : M = [] := List.eq_nil_of_length_eq_zero (by omega)
        subst this
        exact ⟨L, R, by simpa using e1, e2, e4, e5⟩
      have HR0 : Hid (Row c G b w A (Y ++ [x]) B T (L ++ R ++ [x]) wr) := by have := H.out.2; rw [H1.out.1] at this ⊢; exact this
      clear H
      have hin : i ≤ m := by omega
      go_wp2_with fail
      go_loopg [17] (m - i) (fun g2 vk wr => ∃ k : Nat, vk = .int .i64 k ∧ i ≤ k ∧ k ≤ m ∧ g2 = k - i ∧ Hid (∃ R1 R2, R = R1 ++ R2 ∧ i + R1.length = k ∧ Row c G b w A (Y ++ [x]) B T (L ++ R1 ++ x :: R2) wr))
      case atStart => exact ⟨m, rfl, by omega, Nat.le_refl _, rfl, R, [], by simp, by have h1 := HY.out; rw [H1.out.1, List.length_append] at h1; have := H1.out.2.1; omega, by simpa using HR0.out⟩
      case round =>
        obtain ⟨k, rfl, hik, hkm, hg2, H2⟩ := hrel
        have HG2 := hid hg2
        clear hg2 HR0
        by_cases hk2 : i < k
        · obtain ⟨kp, rfl⟩ : ∃ kp, k = kp + 1 := ⟨k - 1, by omega⟩
          obtain ⟨R1, y, R2, H3⟩ : ∃ R1 y R2, Hid (R = R1 ++ y :: R2 ∧ i + R1.length = kp ∧ Row c G b w A (Y ++ [x]) B T ((L ++ R1) ++ y :: x :: R2) wr) := by
            obtain ⟨R1, R2, e1, e2, e3⟩ := H2.out
            have hne : R1 ≠ [] := by intro e; rw [e] at e2; simp at e2; omega
            refine ⟨R1.dropLast, R1.getLast hne, R2, ?_, by rw [List.length_dropLast]; omega, ?_⟩
            · rw [e1]; conv => lhs; rw [← List.dropLast_concat_getLast hne]
              simp
            · have : L ++ R1 ++ x :: R2 = L ++ R1.dropLast ++ R1.getLast hne :: x :: R2 := by
                conv => lhs; rw [← List.dropLast_concat_getLast hne]
                simp
              rw [this] at e3; exact e3
          clear H2
          have HY2 : Hid (0 < c x ∧ c x < c y) := by
            refine ⟨HP.out x (by simp), H1.out.2.2.2 y (by rw [H3.out.1]; simp)⟩
          have q1 : off + kp = A.length + (L ++ R1).length := by have := HA.out; have := H3.out.2.1; have := H1.out.2.1; rw [List.length_append]; omega
          have HSW := hid (H3.out.2.2.swap HC.out HY2.out.1 HY2.out.2 (off + kp) (off + (kp + 1)) q1 rfl)
          have c1 := H3.out.2.2.get (L ++ R1).length y (by simp) _ q1
          have c2 := H3.out.2.2.get ((L ++ R1).length + 1) x (by rw [List.getElem?_append_right (by omega), show (L ++ R1).length + 1 - (L ++ R1).length = 1 by omega]; rfl) (off + (kp + 1)) (by omega)
          have f1 := H3.out.2.2.frozen (off + kp)
          have f2 := H3.out.2.2.frozen (off + (kp + 1))
          clear q1
          have jz : (kp : Int) + 1 < (len : Int) := by omega
          have jz1 : (kp : Int) < (len : Int) := by omega
          have hwp : IntKind.i64.wrap (kp : Int) = (kp : Int) := by rw [IntKind.wrap_i64]; omega
          have p0 : (0 : Int) ≤ (kp : Int) + 1 := by omega
          have e0 : ((kp : Int) + 1).toNat = kp + 1 := by omega
          have hjaz' : (i : Int) < (kp : Int) + 1 := by omega
          go_wp2_with fail
          go_region
          go_wp2_with fail
          go_roundg (kp - i)
          case measure => rw [HG2.out]; omega
          case rel =>
            obtain ⟨e1, e2, _⟩ := H3.out
            exact ⟨kp, by first | rfl | go_num | (congr 1; omega), by omega, by omega, rfl, R1, y :: R2, e1, e2, by first | exact HSW.out.2 | exact HSW.out.1⟩
        · have z4 : ¬ (i : Int) < (k : Int) := by omega
          go_wp2_with fail
          (try simp only [Exit.inBlock, Exit.then])
          refine bodyPost_ret (results_none rfl _ _ _) rfl ?_
          obtain ⟨R1, R2, e1, e2, e3⟩ := H2.out
          obtain ⟨f1, f2, f3, f4⟩ := H1.out
          have : R1 = [] := List.eq_nil_of_length_eq_zero (by omega)
          subst this
          rw [List.nil_append] at e1
          subst e1
          refine ⟨rfl, L ++ x :: R, Pw.put' ?_ f3 (fun p hp => Int.le_of_lt (f4 p hp)), by simpa using e3⟩
          rw [← f1]; exact HSo.out
end Od
end Go.Proofs.Ytoknfhjclpdihaa
