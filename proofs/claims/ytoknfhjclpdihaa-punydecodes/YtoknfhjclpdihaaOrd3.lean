import Derived.Test.YtoknfhjclpdihaaOrd2
namespace Go.Proofs.Ytoknfhjclpdihaa
namespace Od
open Go.RowKit

/-- What cmp.Compare tells. -/
def cmpI (a b : Int) : Int := if a < b then -1 else if b < a then 1 else 0
theorem cmpI_lt (a b : Int) : cmpI a b < 0 ↔ a < b := by
  unfold cmpI
  split
  · simp [*]
  · split <;> omega

/-- The function that holds the classes of two against each other, as long as G is kept. -/
structure Cmp (c : Int → Int) (G : World → Prop) (b : Nat) (cb : Array Value) : Prop where
  call : ∀ W x y, 0 < c x → 0 < c y → G W → Calls Try.prog 36 (#[.int .i64 x, .int .i64 y] ++ cb) W fun e w' => e = .returned (.int .i64 (cmpI (c x) (c y))) ∧ Below W.heap.size W w'
  keep : ∀ W W', G W → Alt b W W' → G W'

/-- Classes rise. -/
def Pw (c : Int → Int) (l : List Int) : Prop := l.Pairwise (fun x y => c x ≤ c y)
theorem Pw.ord {c : Int → Int} : ∀ {l : List Int}, Pw c l → Ord c l
  | [], _ => trivial
  | [_], _ => trivial
  | x :: y :: l, h => by
    have h1 := List.pairwise_cons.1 h
    exact ⟨by have := h1.1 y (by simp); omega, Pw.ord h1.2⟩
theorem Pw.put {c : Int → Int} {P Q : List Int} {x : Int} (h : Pw c (P ++ Q)) (h1 : ∀ p ∈ P, c p ≤ c x) (h2 : ∀ q ∈ Q, c x < c q) : Pw c (P ++ x :: Q) := by
  unfold Pw at h ⊢
  rw [List.pairwise_append] at h ⊢
  refine ⟨h.1, List.pairwise_cons.2 ⟨fun q hq => Int.le_of_lt (h2 q hq), h.2.1⟩, fun p hp q hq => ?_⟩
  rcases List.mem_cons.1 hq with rfl | hq
  · exact h1 p hp
  · exact h.2.2 p hp q hq
theorem Pw.last {c : Int → Int} {P : List Int} {p x : Int} (h : Pw c (P ++ [p])) (h1 : c p ≤ c x) : ∀ q ∈ P ++ [p], c q ≤ c x := by
  intro q hq
  unfold Pw at h
  rw [List.pairwise_append] at h
  rcases List.mem_append.1 hq with hq | hq
  · have := h.2.2 q hq p (by simp); omega
  · simp at hq; subst hq; exact h1

/-- What a walk through a row keeps. -/
def St (G : World → Prop) (b : Nat) (w0 : World) (R : List Int) (T : List Value) (W : World) : Prop := Blk W b R T ∧ G W ∧ Alt b w0 W
theorem St.step {c : Int → Int} {G : World → Prop} {b : Nat} {cb : Array Value} {w0 W W' : World} {R : List Int} {T : List Value} (hC : Cmp c G b cb) (h : St G b w0 R T W) (hb : Below W.heap.size W W') : St G b w0 R T W' :=
  ⟨h.1.step hb, hC.keep _ _ h.2.1 (Alt.of hb), h.2.2.trans (Alt.of hb)⟩
theorem St.turn {c : Int → Int} {G : World → Prop} {b : Nat} {cb : Array Value} {w0 W W' : World} {R R' : List Int} {T : List Value} (hC : Cmp c G b cb) (h : St G b w0 R T W) (hb : Blk W' b R' T ∧ Alt b W W') : St G b w0 R' T W' :=
  ⟨hb.1, hC.keep _ _ h.2.1 hb.2, h.2.2.trans hb.2⟩

/-- A row whose X has been turned into Y. -/
def Row (c : Int → Int) (G : World → Prop) (b : Nat) (w0 : World) (A X B : List Int) (T : List Value) (Y : List Int) (W : World) : Prop := Sw c X Y ∧ St G b w0 (A ++ Y ++ B) T W

theorem Row.pos {c : Int → Int} {G : World → Prop} {b : Nat} {w0 : World} {A X B : List Int} {T : List Value} {Y : List Int} {W : World} (h : Row c G b w0 A X B T Y W) (hp : ∀ x ∈ X, 0 < c x) : ∀ y ∈ Y, 0 < c y := fun y hy => hp y (h.1.perm.mem_iff.2 hy)
theorem Row.step {c : Int → Int} {G : World → Prop} {b : Nat} {cb : Array Value} {w0 W W' : World} {A X B Y : List Int} {T : List Value} (hC : Cmp c G b cb) (h : Row c G b w0 A X B T Y W) (hb : Below W.heap.size W W') : Row c G b w0 A X B T Y W' := ⟨h.1, h.2.step hC hb⟩
theorem Row.get {c : Int → Int} {G : World → Prop} {b : Nat} {w0 W : World} {A X B Y : List Int} {T : List Value} (h : Row c G b w0 A X B T Y W) (k : Nat) (v : Int) (hk : Y[k]? = some v) (p : Nat) (hp : p = A.length + k) : W.cell? ⟨b, p, none⟩ = some (.int .i64 v) := by
  subst hp
  refine h.2.1.cell _ _ ?_
  have hlt := (List.getElem?_eq_some_iff.1 hk).1
  rw [List.append_assoc, List.getElem?_append_right (by omega), Nat.add_sub_cancel_left, List.getElem?_append_left hlt, hk]
theorem Row.frozen {c : Int → Int} {G : World → Prop} {b : Nat} {w0 W : World} {A X B Y : List Int} {T : List Value} (h : Row c G b w0 A X B T Y W) (p : Nat) : W.frozen? ⟨b, p, none⟩ = false := h.2.1.frozen p
/-- Neighbours change places in it. -/
theorem Row.swap {c : Int → Int} {G : World → Prop} {b : Nat} {cb : Array Value} {w0 W : World} {A X B P Q : List Int} {T : List Value} {x y : Int} (hC : Cmp c G b cb) (h : Row c G b w0 A X B T (P ++ x :: y :: Q) W) (h0 : 0 < c y) (h1 : c y < c x) (p q : Nat) (hp : p = A.length + P.length) (hq : q = p + 1) :
    Row c G b w0 A X B T (P ++ y :: x :: Q) ((W.setCell ⟨b, p, none⟩ (.int .i64 y)).setCell ⟨b, q, none⟩ (.int .i64 x)).drew ∧ Row c G b w0 A X B T (P ++ y :: x :: Q) ((W.setCell ⟨b, q, none⟩ (.int .i64 x)).setCell ⟨b, p, none⟩ (.int .i64 y)).drew := by
  have hb : Blk W b ((A ++ P) ++ x :: ([] ++ y :: (Q ++ B))) T := by simpa using h.2.1
  have e : A ++ (P ++ y :: x :: Q) ++ B = (A ++ P) ++ y :: ([] ++ x :: (Q ++ B)) := by simp
  have hp' : p = (A ++ P).length := by rw [List.length_append]; exact hp
  have hq' : q = (A ++ P).length + 1 + ([] : List Int).length := by rw [← hp']; simpa using hq
  refine ⟨⟨.step P x y Q h0 h1 h.1, ?_⟩, ⟨.step P x y Q h0 h1 h.1, ?_⟩⟩
  · rw [e]; exact h.2.turn hC (swap_world hb hp' hq')
  · rw [e]; exact h.2.turn hC (swap_world' hb hp' hq')

set_option maxHeartbeats 4000000 in
set_option maxRecDepth 100000 in
theorem isrt_any {c : Int → Int} {G : World → Prop} {cb : Array Value} (w : World) (b off a m cap len : Nat) (hC : Cmp c G b cb) (A X B : List Int) (T : List Value) (h : Blk w b (A ++ X ++ B) T) (hG : G w) (hA : A.length = off + a) (hX : a + X.length = m) (hl : m ≤ len) (hlen : len < 1000000000000)
    (hpos : ∀ x ∈ X, 0 < c x) :
    Calls Try.prog 46 #[.slice (some ⟨b, off, none⟩) len cap, .int .i64 a, .int .i64 m, .func (.func 36) #[] cb] w fun e w' => e = .returned (.tuple #[]) ∧ ∃ X', Pw c X' ∧ Row c G b w A X B T X' w' := by
  have HC := hid hC
  have HA := hid hA
  have HX := hid hX
  have HP := hid hpos
  have HS : Hid (Row c G b w A X B T X w) := ⟨.refl _, h, hG, Alt.refl _ _⟩
  have ham : a ≤ m := by omega
  clear hC hA hX hpos h hG
  by_cases hx0 : m ≤ a + 1
  · go_enter Try.func46, Try.ntmps46
    go_wp2_with fail
    refine wp_loop_rounds 1 ?_
    rw [rounds_succ]
    go_wp2_with fail
    go_end0
    refine ⟨rfl, X, ?_, HS.out⟩
    have := HX.out
    match X, this with
    | [], _ => exact List.Pairwise.nil
    | [x], _ => exact List.pairwise_singleton _ _
    | x :: y :: l, h => simp at h; omega
  · go_enter Try.func46, Try.ntmps46
    go_wp2_with fail
    go_loopg [8] (m - (a + 1)) (fun g vi wr => ∃ i : Nat, vi = .int .i64 i ∧ a < i ∧ i ≤ m ∧ g = m - i ∧ Hid (∃ P Q, P.length + a = i ∧ Pw c P ∧ Row c G b w A X B T (P ++ Q) wr))
    case atStart =>
      refine ⟨a + 1, by go_num, by omega, by omega, by omega, ?_⟩
      have := HX.out
      match X, this with
      | [], h => simp at h; omega
      | x :: l, _ => exact ⟨[x], l, by simp; omega, List.pairwise_singleton _ _, HS.out⟩
    case round =>
      obtain ⟨i, rfl, hai, him, hg, H⟩ := hrel
      have HG := hid hg
      clear hg HS
      by_cases hlt : i < m
      · have hltz : (i : Int) < (m : Int) := by omega
        obtain ⟨P, x, Q, H1⟩ : ∃ P x Q, Hid (P.length + a = i ∧ Pw c P ∧ Row c G b w A X B T (P ++ x :: Q) wr) := by
          obtain ⟨P, Q, h1, h2, h3⟩ := H.out
          match Q with
          | [] =>
            have h4 := h3.1.len
            have h5 := HX.out
            simp at h4; omega
          | x :: Q => exact ⟨P, x, Q, h1, h2, h3⟩
        have h0x : 0 < c x := H1.out.2.2.pos HP.out x (by simp)
        clear H
        go_wp2_with fail
        go_loopg [9] i (fun g2 vj wr2 => ∃ j : Nat, vj = .int .i64 j ∧ a ≤ j ∧ j ≤ i ∧ g2 = j ∧ Hid (∃ P1 P2, P = P1 ++ P2 ∧ P1.length + a = j ∧ (∀ p ∈ P2, c x < c p) ∧ Row c G b w A X B T (P1 ++ x :: (P2 ++ Q)) wr2))
        case atStart => exact ⟨i, rfl, by omega, Nat.le_refl _, rfl, P, [], by simp, H1.out.1, fun p hp => by simp at hp, by simpa using H1.out.2.2⟩
        case round =>
          obtain ⟨j, rfl, haj, hji, hg2, H2⟩ := hrel
          have HPP := hid H1.out.2.1
          have HPL := hid H1.out.1
          have HG2 := hid hg2
          clear H1 hg2
          by_cases hja : a < j
          · have hjaz : (a : Int) < (j : Int) := by omega
            obtain ⟨jp, rfl⟩ : ∃ jp, j = jp + 1 := ⟨j - 1, by omega⟩
            obtain ⟨P1, p, P2, H3⟩ : ∃ P1 p P2, Hid (P = P1 ++ [p] ++ P2 ∧ P1.length + a = jp ∧ (∀ p ∈ P2, c x < c p) ∧ Row c G b w A X B T (P1 ++ p :: x :: (P2 ++ Q)) wr) := by
              obtain ⟨P1, P2, e1, e2, e3, e4⟩ := H2.out
              have hne : P1 ≠ [] := by intro e; rw [e] at e2; simp at e2; omega
              refine ⟨P1.dropLast, P1.getLast hne, P2, ?_, ?_, e3, ?_⟩
              · rw [List.dropLast_concat_getLast, e1]
              · rw [List.length_dropLast]; omega
              · have : P1 ++ x :: (P2 ++ Q) = P1.dropLast ++ P1.getLast hne :: x :: (P2 ++ Q) := by
                  conv => lhs; rw [← List.dropLast_concat_getLast hne]
                  simp
                rw [this] at e4; exact e4
            clear H2
            have hA1 := HA.out
            have q1 : off + jp = A.length + P1.length := by have := H3.out.2.1; omega
            have q2 : off + (jp + 1) = A.length + (P1.length + 1) := by omega
            have k1 : (P1 ++ p :: x :: (P2 ++ Q))[P1.length]? = some p := by simp
            have k2 : (P1 ++ p :: x :: (P2 ++ Q))[P1.length + 1]? = some x := by simp
            have KK := hid (And.intro q1 (And.intro q2 (And.intro k1 k2)))
            have HR : Hid (Row c G b w A X B T (P1 ++ p :: x :: (P2 ++ Q)) wr.drew) := H3.out.2.2.2.step HC.out ((Below.refl _ _).drew)
            have HR0 : Hid (Row c G b w A X B T (P1 ++ p :: x :: (P2 ++ Q)) wr) := H3.out.2.2.2
            clear hA1 q1 q2 k1 k2
            have jz : (jp : Int) + 1 < (len : Int) := by omega
            have jz1 : (jp : Int) < (len : Int) := by omega
            have hwp : IntKind.i64.wrap (jp : Int) = (jp : Int) := by rw [IntKind.wrap_i64]; omega
            have p0 : (0 : Int) ≤ (jp : Int) + 1 := by omega
            have e0 : ((jp : Int) + 1).toNat = jp + 1 := by omega
            have hjaz' : (a : Int) < (jp : Int) + 1 := by omega
            have HPos : Hid (0 < c x ∧ 0 < c p) := ⟨HR.out.pos HP.out x (by simp), HR.out.pos HP.out p (by simp)⟩
            by_cases hcx : c x < c p
            · have hv : cmpI (c x) (c p) < 0 := (cmpI_lt _ _).2 hcx
              have HV := hid (fun W (h : G W) => HC.out.call W x p HPos.out.1 HPos.out.2 h)
              have HX2 := hid (And.intro h0x hcx)
              generalize cmpI (c x) (c p) = v at *
              clear hcx h0x
              go_wp2_with fail
              go_region_held3 (fun w' => w'.cell? ⟨b, off + jp, none⟩ = some (.int .i64 p) ∧ w'.cell? ⟨b, off + (jp + 1), none⟩ = some (.int .i64 x))
                (first | exact ⟨HR.out.get _ _ KK.out.2.2.1 _ KK.out.1, HR.out.get _ _ KK.out.2.2.2 _ KK.out.2.1⟩ | exact ⟨HR0.out.get _ _ KK.out.2.2.1 _ KK.out.1, HR0.out.get _ _ KK.out.2.2.2 _ KK.out.2.1⟩)
                (first | (go_at_call 36; refine (HV.out _ HR.out.2.2.1).mono ?_; rintro e w' ⟨rfl, hb'⟩; replace HR := hid (HR.out.step HC.out hb'); clear hb'))
              go_wp2_with fail
              have c1 := HR.out.get _ _ KK.out.2.2.1 _ KK.out.1
              have c2 := HR.out.get _ _ KK.out.2.2.2 _ KK.out.2.1
              have f1 := HR.out.frozen (off + jp)
              have f2 := HR.out.frozen (off + (jp + 1))
              have HSW := hid (HR.out.swap HC.out HX2.out.1 HX2.out.2 (off + jp) (off + (jp + 1)) KK.out.1 rfl)
              clear HR HR0
              go_region
              go_wp2_with fail
              go_roundg jp
              case measure => rw [HG2.out]; omega
              case rel =>
                obtain ⟨e1, e2, e3, _⟩ := H3.out
                refine ⟨jp, by first | rfl | go_num | (congr 1; omega), by omega, by omega, rfl, P1, p :: P2, by rw [e1]; simp, e2, ?_, by first | exact HSW.out.2 | exact HSW.out.1⟩
                intro q hq
                rcases List.mem_cons.1 hq with rfl | hq
                · exact HX2.out.2
                · exact e3 q hq
            · have hv : ¬ cmpI (c x) (c p) < 0 := fun h => hcx ((cmpI_lt _ _).1 h)
              have HV := hid (fun W (h : G W) => HC.out.call W x p HPos.out.1 HPos.out.2 h)
              have HX2 := hid hcx
              generalize cmpI (c x) (c p) = v at *
              clear hcx h0x
              go_wp2_with fail
              go_region_held3 (fun w' => w'.cell? ⟨b, off + jp, none⟩ = some (.int .i64 p) ∧ w'.cell? ⟨b, off + (jp + 1), none⟩ = some (.int .i64 x))
                (first | exact ⟨HR.out.get _ _ KK.out.2.2.1 _ KK.out.1, HR.out.get _ _ KK.out.2.2.2 _ KK.out.2.1⟩ | exact ⟨HR0.out.get _ _ KK.out.2.2.1 _ KK.out.1, HR0.out.get _ _ KK.out.2.2.2 _ KK.out.2.1⟩)
                (first | (go_at_call 36; refine (HV.out _ HR.out.2.2.1).mono ?_; rintro e w' ⟨rfl, hb'⟩; replace HR := hid (HR.out.step HC.out hb'); clear hb'))
              go_wp2_with fail
              go_roundg (m - (i + 1))
              case measure => rw [HG.out]; omega
              case rel =>
                obtain ⟨e1, e2, e3, _⟩ := H3.out
                refine ⟨i + 1, by go_num, by omega, by omega, rfl, P1 ++ [p] ++ x :: P2, Q, ?_, ?_, by simpa using HR.out⟩
                · have := HPL.out
                  rw [e1] at this
                  simp only [List.length_append, List.length_cons, List.length_nil] at this ⊢; omega
                · have h2 := HPP.out
                  rw [e1] at h2
                  exact Pw.put h2 (Pw.last (List.pairwise_append.1 h2).1 (by have := HX2.out; omega)) e3
          · have hjaz : decide ((j : Int) > (a : Int)) = false := decide_eq_false (by omega)
            have hjaz' : ¬ (a : Int) < (j : Int) := by omega
            have HR : Hid (∃ P2, P = P2 ∧ (∀ p ∈ P2, c x < c p) ∧ Row c G b w A X B T (x :: (P2 ++ Q)) wr.drew) := by
              obtain ⟨P1, P2, e1, e2, e3, e4⟩ := H2.out
              have : P1 = [] := List.eq_nil_of_length_eq_zero (by omega)
              subst this
              exact ⟨P2, e1, e3, e4.step HC.out ((Below.refl _ _).drew)⟩
            clear H2
            go_wp2_with fail
            go_region
            go_wp2_with fail
            go_roundg (m - (i + 1))
            case measure => rw [HG.out]; omega
            case rel =>
              obtain ⟨P2, e1, e3, e4⟩ := HR.out
              subst e1
              refine ⟨i + 1, by go_num, by omega, by omega, rfl, x :: P, Q, ?_, ?_, e4⟩
              · have := HPL.out
                simp only [List.length_cons]; omega
              · exact Pw.put (P := []) HPP.out (fun p hp => by simp at hp) e3
      · go_wp2_with fail
        go_end0
        obtain ⟨P, Q, h1, h2, h3⟩ := H.out
        have h4 := h3.1.len
        have h5 := HX.out
        have : Q = [] := List.eq_nil_of_length_eq_zero (by rw [List.length_append] at h4; omega)
        subst this
        rw [List.append_nil] at h3
        exact ⟨rfl, P, h2, h3⟩
end Od
end Go.Proofs.Ytoknfhjclpdihaa
