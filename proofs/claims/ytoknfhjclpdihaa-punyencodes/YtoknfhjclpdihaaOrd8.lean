import Derived.Test.YtoknfhjclpdihaaOrd7
namespace Go.Proofs.Ytoknfhjclpdihaa
namespace Od
open Go.RowKit

theorem sym_any {c : Int → Int} {G : World → Prop} {cb : Array Value} (b off cap len : Nat) (T : List Value) (hC : Cmp c G b cb) (hlen : len < 1000000000000) : ∀ N, SymOk c G cb b off cap len T N
  | 0 => fun w a m n A Y1 Y2 B hN h hG hA hY1 hY2 ham hmn hl hpos hs1 hs2 => by omega
  | N + 1 => fun w a m n A Y1 Y2 B hN h hG hA hY1 hY2 ham hmn hl hpos hs1 hs2 => by
    by_cases h1 : m = a + 1
    · match Y1, hY1 with
      | [], hY1 => simp at hY1; omega
      | [x], hY1 => exact sym1_any w b off a m n cap len hC A x Y2 B T h hG hA h1.symm hY2 hl hlen hpos hs2
      | x :: y :: l, hY1 => simp at hY1; omega
    · by_cases h2 : n = m + 1
      · match Y2, hY2 with
        | [], hY2 => simp at hY2; omega
        | [x], hY2 => exact sym2_any w b off a m n cap len hC A x Y1 B T h hG hA h2.symm hY1 (by omega) hl hlen hpos hs1
        | x :: y :: l, hY2 => simp at hY2; omega
      · by_cases h3 : (a + n) / 2 < m
        · exact sym3_hi_any b off cap len T N hC hlen (sym_any b off cap len T hC hlen N) w a m n A Y1 Y2 B hN h hG hA hY1 hY2 (by omega) (by omega) hl hpos hs1 hs2 ((a + n) / 2) ((a + n) / 2 + m - n) ((a + n) / 2) (by omega) ⟨h3, by omega, rfl⟩
        · exact sym3_lo_any b off cap len T N hC hlen (sym_any b off cap len T hC hlen N) w a m n A Y1 Y2 B hN h hG hA hY1 hY2 (by omega) (by omega) hl hpos hs1 hs2 ((a + n) / 2) a m (by omega) ⟨by omega, rfl, rfl⟩

/-- Pieces of one length, each in order; the last may be shorter. -/
def Chs (c : Int → Int) (s : Nat) (Q : List Int) : Prop := ∀ R : List Int → Prop, (∀ l : List Int, l.length ≤ s → Pw c l → R l) → (∀ x l : List Int, x.length = s → Pw c x → R l → R (x ++ l)) → R Q
theorem Chs.last {c : Int → Int} {s : Nat} (l : List Int) (h : l.length ≤ s) (hp : Pw c l) : Chs c s l := fun _ h1 _ => h1 l h hp
theorem Chs.cons {c : Int → Int} {s : Nat} (x l : List Int) (h : x.length = s) (hp : Pw c x) (hl : Chs c s l) : Chs c s (x ++ l) := fun R h1 h2 => h2 x l h hp (hl R h1 h2)
def Full (c : Int → Int) (s : Nat) (P : List Int) : Prop := ∀ R : List Int → Prop, R [] → (∀ P x : List Int, R P → x.length = s → Pw c x → R (P ++ x)) → R P
theorem Full.nil {c : Int → Int} {s : Nat} : Full c s [] := fun _ h _ => h
theorem Full.snoc {c : Int → Int} {s : Nat} (P x : List Int) (hP : Full c s P) (h : x.length = s) (hp : Pw c x) : Full c s (P ++ x) := fun R h1 h2 => h2 P x (hP R h1 h2) h hp
theorem Full.chs {c : Int → Int} {s : Nat} {P : List Int} (h : Full c s P) : ∀ {Q : List Int}, Chs c s Q → Chs c s (P ++ Q) := by
  intro Q hQ
  refine h (fun P => ∀ Q, Chs c s Q → Chs c s (P ++ Q)) (fun Q hQ => hQ) (fun P x ih h hp Q hQ => ?_) Q hQ
  rw [List.append_assoc]
  exact ih _ (.cons x Q h hp hQ)
theorem Chs.split {c : Int → Int} {s : Nat} {Q : List Int} (h : Chs c s Q) : (Q.length ≤ s ∧ Pw c Q) ∨ ∃ x l, Q = x ++ l ∧ x.length = s ∧ Pw c x ∧ Chs c s l := by
  have h2 := h (fun Q => Chs c s Q ∧ ((Q.length ≤ s ∧ Pw c Q) ∨ ∃ x l, Q = x ++ l ∧ x.length = s ∧ Pw c x ∧ Chs c s l)) (fun l h1 hp => ⟨.last l h1 hp, .inl ⟨h1, hp⟩⟩) (fun x l h1 hp ih => ⟨.cons x l h1 hp ih.1, .inr ⟨x, l, rfl, h1, hp, ih.1⟩⟩)
  exact h2.2
theorem Chs.head {c : Int → Int} {s : Nat} {Q : List Int} (h : Chs c s Q) (hs : s ≤ Q.length) : ∃ x Q', Q = x ++ Q' ∧ x.length = s ∧ Pw c x ∧ Chs c s Q' := by
  rcases h.split with ⟨h, hp⟩ | ⟨x, l, e, h, hp, hl⟩
  · exact ⟨Q, [], by simp, by omega, hp, .last [] (Nat.zero_le _) List.Pairwise.nil⟩
  · exact ⟨x, l, e, h, hp, hl⟩
theorem Chs.small {c : Int → Int} {s : Nat} {Q : List Int} (h : Chs c s Q) (hs : Q.length ≤ s) : Pw c Q := by
  rcases h.split with ⟨h, hp⟩ | ⟨x, l, e, h, hp, hl⟩
  · exact hp
  · have : l = [] := List.eq_nil_of_length_eq_zero (by rw [e, List.length_append] at hs; omega)
    rw [e, this, List.append_nil]; exact hp

set_option maxHeartbeats 8000000 in
set_option maxRecDepth 100000 in
theorem stable_any {c : Int → Int} {G : World → Prop} {cb : Array Value} (w : World) (b off cap n : Nat) (hC : Cmp c G b cb) (A X B : List Int) (T : List Value) (h : Blk w b (A ++ X ++ B) T) (hG : G w) (hA : A.length = off) (hX : X.length = n) (hlen : n < 1000000000000)
    (hpos : ∀ x ∈ X, 0 < c x) :
    Calls Try.prog 42 #[.slice (some ⟨b, off, none⟩) n cap, .int .i64 n, .func (.func 36) #[] cb] w fun e w' => e = .returned (.tuple #[]) ∧ ∃ X', Pw c X' ∧ Row c G b w A X B T X' w' := by
  have HA := hid hA
  have HX := hid hX
  have HP := hid hpos
  have HS : Hid (Row c G b w A X B T X w) := ⟨.refl _, h, hG, Alt.refl _ _⟩
  have HI : Hid (∀ (w2 : World) (a m : Nat) (P x Q : List Int), Row c G b w A X B T (P ++ x ++ Q) w2 → P.length = a → a + x.length = m → Calls Try.prog 46 #[.slice (some ⟨b, off, none⟩) n cap, .int .i64 a, .int .i64 m, .func (.func 36) #[] cb] w2 fun e w' => e = .returned (.tuple #[]) ∧ ∃ x', x'.length = x.length ∧ Pw c x' ∧ Row c G b w A X B T (P ++ x' ++ Q) w') := by
    intro w2 a m P x Q hr hP hx
    have h1 := hr.1.len
    simp only [List.length_append] at h1
    refine (isrt_any w2 b off a m cap n hC (A ++ P) x (Q ++ B) T hr.blk hr.2.2.1 (by rw [List.length_append]; omega) hx (by omega) hlen (fun y hy => hr.pos hpos y (by simp [hy]))).mono ?_
    rintro e w' ⟨he, x', hp, hr'⟩
    exact ⟨he, x', hr'.1.len, hp, hr.sub hr'⟩
  have HM : Hid (∀ (w2 : World) (a m k : Nat) (P x y Q : List Int), Row c G b w A X B T (P ++ (x ++ y) ++ Q) w2 → P.length = a → a + x.length = m → m + y.length = k → a < m → m < k → Pw c x → Pw c y → Calls Try.prog 47 #[.slice (some ⟨b, off, none⟩) n cap, .int .i64 a, .int .i64 m, .int .i64 k, .func (.func 36) #[] cb] w2 fun e w' => e = .returned (.tuple #[]) ∧ ∃ x', x'.length = x.length + y.length ∧ Pw c x' ∧ Row c G b w A X B T (P ++ x' ++ Q) w') := by
    intro w2 a m k P x y Q hr hP hx hy ham hmk p1 p2
    have h1 := hr.1.len
    simp only [List.length_append] at h1
    refine (sym_any b off cap n T hC hlen (k - a) w2 a m k (A ++ P) x y (Q ++ B) (Nat.le_refl _) hr.blk hr.2.2.1 (by rw [List.length_append]; omega) hx hy ham hmk (by omega) (fun z hz => hr.pos hpos z (by simp only [List.mem_append] at hz ⊢; rcases hz with hz | hz <;> simp [hz])) p1 p2).mono ?_
    rintro e w' ⟨he, x', hp, hr'⟩
    exact ⟨he, x', by rw [hr'.1.len, List.length_append], hp, hr.sub hr'⟩
  clear hC h hG hA hX hpos
  go_enter Try.func42, Try.ntmps42
  go_wp2_with fail
  go_loopg [7, 8] n (fun g va vb wr => ∃ a k : Nat, va = .int .i64 a ∧ vb = .int .i64 k ∧ a ≤ n ∧ a + 20 ≤ k ∧ k ≤ a + 20 ∧ g = n - a ∧ Hid (∃ P Q, P.length = a ∧ Full c 20 P ∧ Row c G b w A X B T (P ++ Q) wr))
  case atStart => exact ⟨0, 20, rfl, rfl, Nat.zero_le _, by omega, by omega, rfl, [], X, rfl, .nil, HS.out⟩
  case round =>
    obtain ⟨a, k, rfl, rfl, han, hk1, hk2, hg, H⟩ := hrel
    have HG := hid hg
    clear hg HS
    by_cases hlt : k ≤ n
    · obtain ⟨P, x, Q, H1⟩ : ∃ P x Q, Hid (P.length = a ∧ x.length = 20 ∧ Full c 20 P ∧ Row c G b w A X B T (P ++ x ++ Q) wr) := by
        obtain ⟨P, Q, e1, e2, e3⟩ := H.out
        have h1 := e3.1.len
        have h2 := HX.out
        rw [List.length_append] at h1
        exact ⟨P, Q.take 20, Q.drop 20, e1, by rw [List.length_take]; omega, e2, by rw [List.append_assoc, List.take_append_drop]; exact e3⟩
      clear H
      have HCl := hid (HI.out wr a k P x Q H1.out.2.2.2 H1.out.1 (by have := H1.out.2.1; omega))
      go_wp2_with fail
      refine HCl.out.mono ?_
      rintro e w2 ⟨rfl, x', hl, hp, hr⟩
      have H2 : Hid (Full c 20 (P ++ x') ∧ (P ++ x').length = k ∧ Row c G b w A X B T (P ++ x' ++ Q) w2) := ⟨.snoc P x' H1.out.2.2.1 (by have := H1.out.2.1; omega) hp, by have := H1.out; rw [List.length_append]; omega, hr⟩
      clear hl hp hr HCl
      go_wp2_with fail
      go_roundg (n - k)
      case measure => rw [HG.out]; omega
      case rel => exact ⟨k, k + 20, rfl, by go_num, hlt, by omega, by omega, rfl, P ++ x', Q, H2.out.2.1, H2.out.1, H2.out.2.2⟩
    · obtain ⟨P, x, H1⟩ : ∃ P x, Hid (P.length = a ∧ a + x.length = n ∧ Full c 20 P ∧ Row c G b w A X B T (P ++ x ++ []) wr) := by
        obtain ⟨P, Q, e1, e2, e3⟩ := H.out
        have h1 := e3.1.len
        have h2 := HX.out
        rw [List.length_append] at h1
        exact ⟨P, Q, e1, by omega, e2, by simpa using e3⟩
      clear H
      have HCl := hid (HI.out wr a n P x [] H1.out.2.2.2 H1.out.1 H1.out.2.1)
      go_wp2_with fail
      refine HCl.out.mono ?_
      rintro e w2 ⟨rfl, x', hl, hp, hr⟩
      have H2 : Hid (∃ Z, Chs c 20 Z ∧ Row c G b w A X B T Z w2) := by
        refine ⟨P ++ x', H1.out.2.2.1.chs (.last x' (by have := H1.out; omega) hp), by simpa using hr⟩
      clear hl hp hr HCl H1 HI
      go_wp2_with fail
      go_loopg [6, 7, 8, 9] (n - 20) (fun g vs va vb vm wr => ∃ s : Nat, vs = .int .i64 s ∧ 20 ≤ s ∧ s ≤ 2 * n + 20 ∧ g = n - s ∧ Hid (∃ Z, Chs c s Z ∧ Row c G b w A X B T Z wr))
      case atStart => exact ⟨20, rfl, Nat.le_refl _, by omega, rfl, H2.out⟩
      case round =>
        clear H2
        obtain ⟨s, rfl, hs1, hs2, hg, H⟩ := hrel
        have HG := hid hg
        clear hg
        by_cases hsn : s < n
        · go_wp2_with fail
          go_loopg [7, 8] n (fun g2 va vb wr => ∃ a k : Nat, va = .int .i64 a ∧ vb = .int .i64 k ∧ a ≤ n ∧ a + 2 * s ≤ k ∧ k ≤ a + 2 * s ∧ g2 = n - a ∧ Hid (∃ P Q, P.length = a ∧ Full c (2 * s) P ∧ Chs c s Q ∧ Row c G b w A X B T (P ++ Q) wr))
          case atStart =>
            obtain ⟨Z, z1, z2⟩ := H.out
            exact ⟨0, 2 * s, rfl, by first | rfl | go_num | (congr 1; omega), Nat.zero_le _, by omega, by omega, rfl, [], Z, rfl, .nil, z1, z2⟩
          case round =>
            clear H
            obtain ⟨a, k, rfl, rfl, han, hk1, hk2, hg2, H⟩ := hrel
            have HG2 := hid hg2
            clear hg2
            have q1 : IntKind.i64.wrap ((a : Int) + (s : Int)) = ((a + s : Nat) : Int) := by rw [IntKind.wrap_i64]; omega
            by_cases hlt : k ≤ n
            · obtain ⟨P, x, y, Q, H1⟩ : ∃ P x y Q, Hid (P.length = a ∧ x.length = s ∧ y.length = s ∧ Full c (2 * s) P ∧ Pw c x ∧ Pw c y ∧ Chs c s Q ∧ Row c G b w A X B T (P ++ (x ++ y) ++ Q) wr) := by
                obtain ⟨P, Q, e1, e2, e3, e4⟩ := H.out
                have h1 := e4.1.len
                have h2 := HX.out
                rw [List.length_append] at h1
                obtain ⟨x, Q1, rfl, x1, x2, x3⟩ := e3.head (by omega)
                rw [List.length_append] at h1
                obtain ⟨y, Q2, rfl, y1, y2, y3⟩ := x3.head (by omega)
                exact ⟨P, x, y, Q2, e1, x1, y1, e2, x2, y2, y3, by simpa using e4⟩
              clear H
              have HCl := hid (HM.out wr a (a + s) k P x y Q H1.out.2.2.2.2.2.2.2 H1.out.1 (by have := H1.out; omega) (by have := H1.out; omega) (by omega) (by omega) H1.out.2.2.2.2.1 H1.out.2.2.2.2.2.1)
              go_wp2_with fail
              refine HCl.out.mono ?_
              rintro e w3 ⟨rfl, x', hl, hp, hr⟩
              have H2 : Hid (Full c (2 * s) (P ++ x') ∧ (P ++ x').length = k ∧ Chs c s Q ∧ Row c G b w A X B T (P ++ x' ++ Q) w3) := ⟨.snoc P x' H1.out.2.2.2.1 (by have := H1.out; omega) hp, by have := H1.out; rw [List.length_append]; omega, H1.out.2.2.2.2.2.2.1, hr⟩
              clear hl hp hr HCl
              have q2 : IntKind.i64.wrap ((k : Int) + 2 * (s : Int)) = ((k + 2 * s : Nat) : Int) := by rw [IntKind.wrap_i64]; omega
              go_wp2_with fail
              go_roundg (n - k)
              case measure => rw [HG2.out]; omega
              case rel => exact ⟨k, k + 2 * s, rfl, by first | rfl | go_num | (congr 1; omega), hlt, by omega, by omega, rfl, P ++ x', Q, H2.out.2.1, H2.out.1, H2.out.2.2.1, H2.out.2.2.2⟩
            · by_cases hms : a + s < n
              · obtain ⟨P, x, y, H1⟩ : ∃ P x y, Hid (P.length = a ∧ x.length = s ∧ a + s + y.length = n ∧ Full c (2 * s) P ∧ Pw c x ∧ Pw c y ∧ Row c G b w A X B T (P ++ (x ++ y) ++ []) wr) := by
                  obtain ⟨P, Q, e1, e2, e3, e4⟩ := H.out
                  have h1 := e4.1.len
                  have h2 := HX.out
                  rw [List.length_append] at h1
                  obtain ⟨x, Q1, rfl, x1, x2, x3⟩ := e3.head (by omega)
                  rw [List.length_append] at h1
                  exact ⟨P, x, Q1, e1, x1, by omega, e2, x2, x3.small (by omega), by simpa using e4⟩
                clear H
                have HCl := hid (HM.out wr a (a + s) n P x y [] H1.out.2.2.2.2.2.2 H1.out.1 (by have := H1.out; omega) (by have := H1.out; omega) (by omega) (by omega) H1.out.2.2.2.2.1 H1.out.2.2.2.2.2.1)
                have q3 : ((a + s : Nat) : Int) < (n : Int) := by omega
                go_wp2_with fail
                refine HCl.out.mono ?_
                rintro e w3 ⟨rfl, x', hl, hp, hr⟩
                have H2 : Hid (∃ Z, Chs c (2 * s) Z ∧ Row c G b w A X B T Z w3) := ⟨P ++ x', H1.out.2.2.2.1.chs (.last x' (by have := H1.out; omega) hp), by simpa using hr⟩
                clear hl hp hr HCl
                go_wp2_with fail
                go_roundg (n - 2 * s)
                case measure => rw [HG.out]; omega
                case rel => exact ⟨2 * s, by first | rfl | go_num | (congr 1; omega), by omega, by omega, rfl, H2.out⟩
              · have H2 : Hid (∃ Z, Chs c (2 * s) Z ∧ Row c G b w A X B T Z wr) := by
                  obtain ⟨P, Q, e1, e2, e3, e4⟩ := H.out
                  have h1 := e4.1.len
                  have h2 := HX.out
                  rw [List.length_append] at h1
                  exact ⟨P ++ Q, e2.chs (.last Q (by omega) (e3.small (by omega))), e4⟩
                have q3 : ¬ ((a + s : Nat) : Int) < (n : Int) := by omega
                clear H
                go_wp2_with fail
                go_roundg (n - 2 * s)
                case measure => rw [HG.out]; omega
                case rel => exact ⟨2 * s, by first | rfl | go_num | (congr 1; omega), by omega, by omega, rfl, H2.out⟩
        · go_wp2_with fail
          go_end0
          obtain ⟨Z, z1, z2⟩ := H.out
          exact ⟨rfl, Z, z1.small (by rw [z2.1.len]; have := HX.out; omega), z2⟩

set_option maxHeartbeats 1000000 in
theorem sstf_any {c : Int → Int} {G : World → Prop} {cb : Array Value} (w : World) (b off cap n : Nat) (hC : Cmp c G b cb) (A X B : List Int) (T : List Value) (h : Blk w b (A ++ X ++ B) T) (hG : G w) (hA : A.length = off) (hX : X.length = n) (hlen : n < 1000000000000)
    (hpos : ∀ x ∈ X, 0 < c x) :
    Calls Try.prog 35 #[.slice (some ⟨b, off, none⟩) n cap, .func (.func 36) #[] cb] w fun e w' => e = .returned (.tuple #[]) ∧ Blk w' b (A ++ srt c X ++ B) T ∧ Alt b w w' := by
  have HS := hid (stable_any w b off cap n hC A X B T h hG hA hX hlen hpos)
  clear hC h hG hA hX hpos
  go_enter Try.func35, Try.ntmps35
  go_wp2_with fail
  refine HS.out.mono ?_
  rintro e w2 ⟨rfl, X', hp, hr⟩
  go_wp2_with fail
  go_end0
  rw [← hr.1.fin hp.ord]
  exact ⟨rfl, hr.2.1, hr.2.2.2⟩

end Od
end Go.Proofs.Ytoknfhjclpdihaa
