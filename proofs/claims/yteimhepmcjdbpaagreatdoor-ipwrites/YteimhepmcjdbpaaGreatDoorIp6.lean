import Derived.Test.YteimhepmcjdbpaaGreatDoorIp5
import Derived.Deep.Cut
namespace Go.Proofs.YteimhepmcjdbpaaGreatDoor
open Go.RowKit
namespace Ip

def pkL : List Int → List Int
  | [a, b, c, d] => [a * 256 + b, c * 256 + d]
  | _ => []
/-- The words of parts between colons; the last one may be an IPv4 address where q. -/
def reP (q : Bool) : List (List UInt8) → Option (List Int)
  | [] => some []
  | p :: ps => if 0 ≤ woL p then (match reP q ps with | some vs => some (woL p :: vs) | none => none) else if (v4L p).2 = true ∧ ps = [] ∧ q = true then some (pkL (v4L p).1) else none
def reS (q : Bool) (ws : List Int) (ps : List (List UInt8)) : Option (List Int) := match reP q ps with | some vs => if ws.length + vs.length ≤ 8 then some (ws ++ vs) else none | none => none
def reL (q : Bool) (l : List UInt8) : Option (List Int) := if l = [] then some [] else reS q [] (paL 58 l)

theorem reS_nil (q : Bool) (ws : List Int) (h : ws.length ≤ 8) : reS q ws [] = some ws := by
  show (if ws.length + ([] : List Int).length ≤ 8 then some (ws ++ []) else none) = _
  rw [if_pos (by simpa using h), List.append_nil]
theorem reS_word (q : Bool) (ws : List Int) (p : List UInt8) (ps : List (List UInt8)) (h : 0 ≤ woL p) : reS q ws (p :: ps) = reS q (ws ++ [woL p]) ps := by
  unfold reS
  rw [reP, if_pos h]
  cases reP q ps with
  | none => rfl
  | some vs =>
    show (if ws.length + (woL p :: vs).length ≤ 8 then some (ws ++ woL p :: vs) else none) = (if (ws ++ [woL p]).length + vs.length ≤ 8 then some ((ws ++ [woL p]) ++ vs) else none)
    have e : ws.length + (woL p :: vs).length = (ws ++ [woL p]).length + vs.length := by simp; omega
    rw [e, List.append_assoc]; rfl
theorem reS_over (q : Bool) (ws : List Int) (ps : List (List UInt8)) (h : 8 < ws.length) : reS q ws ps = none := by
  unfold reS
  cases reP q ps with
  | none => rfl
  | some vs => show (if _ then _ else _) = _; rw [if_neg (by omega)]
theorem reS_bad (q : Bool) (ws : List Int) (p : List UInt8) (ps : List (List UInt8)) (h : ¬ 0 ≤ woL p) (h2 : ¬ ((v4L p).2 = true ∧ ps = [] ∧ q = true)) : reS q ws (p :: ps) = none := by
  unfold reS
  rw [reP, if_neg h, if_neg h2]
theorem reS_four (ws : List Int) (p : List UInt8) (a b c d : Int) (h : ¬ 0 ≤ woL p) (h2 : v4L p = ([a, b, c, d], true)) : reS true ws [p] = if ws.length + 2 ≤ 8 then some (ws ++ [a * 256 + b, c * 256 + d]) else none := by
  unfold reS
  rw [reP, if_neg h, h2, if_pos ⟨rfl, rfl, rfl⟩]; rfl
theorem cuG_less (sub : List UInt8) (hsub : sub ≠ []) : ∀ l, (cuG sub l).2.2 = true → (cuG sub l).2.1.length < l.length := by
  intro l
  induction l with
  | nil => intro h; cases h
  | cons a l ih =>
    unfold cuG
    split
    · intro _
      have : 0 < sub.length := List.length_pos_iff.2 hsub
      simp only [List.length_drop, List.length_cons]; omega
    · intro h; have := ih h; simp only [List.length_cons]; omega

def szV : Value → Nat
  | .string s => s.size
  | _ => 0
def moV : Value → Nat
  | .bool true => 1
  | _ => 0

theorem Li.below {w w' : World} {g B : Nat} {l : List Value} (h : Li w g l) (hb : Below B w w') (hg : g < B) : Li w' g l := fun j hj =>
  ⟨(hb.cell (p := ⟨g, j, none⟩) hg).trans (h j hj).1, (hb.frozen (p := ⟨g, j, none⟩) hg).trans (h j hj).2⟩

/-- What the loop of read keeps. -/
structure Rd (w W : World) (ws : List Int) : Prop where
  ok : Ok w.heap.size w W
  sz : w.heap.size + 2 ≤ W.heap.size
  zero : Li W w.heap.size (pts [])
  out : Li W (w.heap.size + 1) (pts ws)
  le : ws.length ≤ 8
theorem Rd.step {w W W' : World} {ws : List Int} (h : Rd w W ws) (hb : Below W.heap.size W W') : Rd w W' ws :=
  ⟨h.ok.step hb, Nat.le_trans h.sz hb.size, h.zero.step hb (by have := h.sz; omega), h.out.step hb (by have := h.sz; omega), h.le⟩
theorem Rd.put {w W W' : World} {ws : List Int} {x : Int} (h : Rd w W ws) (hp : Pw W W' (w.heap.size + 1) ws x) (h8 : ws.length < 8) : Rd w W' (ws ++ [x]) :=
  ⟨⟨h.ok.1.trans (hp.bel.mono (by omega)), by rw [hp.size]; exact h.ok.2⟩, by rw [hp.size]; exact h.sz, hp.keep _ _ (by omega) h.zero, hp.next, by simp; omega⟩

def z9 : Array Value := #[.int .u16 0, .int .u16 0, .int .u16 0, .int .u16 0, .int .u16 0, .int .u16 0, .int .u16 0, .int .u16 0, .int .i64 0]

theorem set_at {B : Nat} {a w : World} (h : Below B a w) (j : Nat) (u : Value) : Below B a (w.setCell ⟨B, j, none⟩ u) := h.setCell (Nat.le_refl _) u
theorem eight {l : List Int} (h : l.length = 8) : ∃ v0 v1 v2 v3 v4 v5 v6 v7, l = [v0, v1, v2, v3, v4, v5, v6, v7] := by
  match l, h with
  | [v0, v1, v2, v3, v4, v5, v6, v7], _ => exact ⟨v0, v1, v2, v3, v4, v5, v6, v7, rfl⟩
theorem pts_nine (ws : List Int) (h : ws.length ≤ 8) : ∃ v0 v1 v2 v3 v4 v5 v6 v7, ws ++ List.replicate (8 - ws.length) 0 = [v0, v1, v2, v3, v4, v5, v6, v7] ∧ pts ws = [.int .u16 v0, .int .u16 v1, .int .u16 v2, .int .u16 v3, .int .u16 v4, .int .u16 v5, .int .u16 v6, .int .u16 v7, .int .i64 (ws.length : Int)] := by
  obtain ⟨v0, v1, v2, v3, v4, v5, v6, v7, e⟩ := eight (l := ws ++ List.replicate (8 - ws.length) 0) (by simp; omega)
  exact ⟨v0, v1, v2, v3, v4, v5, v6, v7, e, by unfold pts; rw [e]; rfl⟩

theorem four_li (W : World) (a b c d : Int) (t : TypeId) : Li (W.alloc (.cells #[.int .u8 a, .int .u8 b, .int .u8 c, .int .u8 d] t)) W.heap.size (u8v [a, b, c, d]) := Li.new W _ t
theorem none_iff {c : UInt8} {f : Bool} {l : List UInt8} : (if f = true then paL c l else []) = [] ↔ f = false := by
  cases f
  · simp
  · simp [paL_ne]

set_option maxRecDepth 100000 in
set_option maxHeartbeats 8000000 in
theorem read_any (s : ByteArray) (q : Bool) (w : World) (hs : s.size ≤ 1000) (hg : Gl w) :
    Calls Tryz.prog 21 #[.string s, .bool q] w fun e w' => e = .returned (.tuple #[.agg (pts ((reL q s.data.toList).getD [])).toArray, .bool (reL q s.data.toList).isSome]) ∧ Below w.heap.size w w' := by
  have HG := hid hg
  clear hg
  have HE : ∃ m0, s.toList.isEmpty = !m0 ∧ Hid (reL q s.data.toList = reS q [] (if m0 = true then paL 58 s.data.toList else [])) := by
    rw [ByteArray.toList_eq]
    cases h : s.data.toList with
    | nil => exact ⟨false, rfl, rfl⟩
    | cons a l => exact ⟨true, rfl, if_neg (by simp)⟩
  obtain ⟨m0, HE, HL0⟩ := HE
  have HZ : Hid (reL q s.data.toList = none → ∀ W ws, Hid (Rd w W ws) → ∀ u0 u1 u2 u3 u4 u5 u6 u7 u8, (Ending.returned (.tuple #[.agg z9, .bool false]) = Ending.returned (.tuple #[.agg (pts ((reL q s.data.toList).getD [])).toArray, .bool (reL q s.data.toList).isSome])) ∧ Below w.heap.size w (((((((((W.setCell ⟨w.heap.size, 0, none⟩ u0).setCell ⟨w.heap.size, 1, none⟩ u1).setCell ⟨w.heap.size, 2, none⟩ u2).setCell ⟨w.heap.size, 3, none⟩ u3).setCell ⟨w.heap.size, 4, none⟩ u4).setCell ⟨w.heap.size, 5, none⟩ u5).setCell ⟨w.heap.size, 6, none⟩ u6).setCell ⟨w.heap.size, 7, none⟩ u7).setCell ⟨w.heap.size, 8, none⟩ u8)) := by
    intro h W ws HO u0 u1 u2 u3 u4 u5 u6 u7 u8
    rw [h]
    refine ⟨rfl, ?_⟩
    iterate 9 refine set_at ?_ _ _
    exact HO.out.ok.1
  cases m0
  all_goals
    go_enter Tryz.func21, Tryz.ntmps21
    go_wp2
    go_loopw [7, 8] (fun r m wr => ∃ (rs : ByteArray) (mm : Bool) (ws : List Int), r = .string rs ∧ m = .bool mm ∧ Hid (rs.size ≤ s.size) ∧ Hid (Rd w wr ws) ∧ Hid (reL q s.data.toList = reS q ws (if mm = true then paL 58 rs.data.toList else []))) (fun r m _ => szV r + moV m)
    case atStart =>
      have l0 := Li.new w z9 48
      have l1 := Li.new (w.alloc (.cells z9 48)) z9 48
      have e : (w.alloc (.cells z9 48)).heap.size = w.heap.size + 1 := by simp
      rw [e] at l1
      exact ⟨s, _, [], rfl, rfl, Nat.le_refl _, ⟨(Ok.start w).alloc.alloc, by simp, l0.step ((Below.refl _ _).alloc (Nat.le_refl _) _) (by simp), l1, Nat.zero_le _⟩, HL0.out⟩
    case round =>
      obtain ⟨rs, mm, ws, rfl, rfl, HR, HO, HV⟩ := hrel
      cases mm
      · have hv : reL q s.data.toList = some ws := by rw [HV.out]; exact reS_nil q ws HO.out.le
        obtain ⟨v0, v1, v2, v3, v4, v5, v6, v7, _, hp⟩ := pts_nine ws HO.out.le
        have HF : Hid (Ending.returned (.tuple #[.agg #[.int .u16 v0, .int .u16 v1, .int .u16 v2, .int .u16 v3, .int .u16 v4, .int .u16 v5, .int .u16 v6, .int .u16 v7, .int .i64 (ws.length : Int)], .bool true]) = Ending.returned (.tuple #[.agg (pts ((reL q s.data.toList).getD [])).toArray, .bool (reL q s.data.toList).isSome])) := by
          show _ = _; rw [hv, Option.getD_some, hp]; rfl
        have hL := HO.out.out
        rw [hp] at hL
        obtain ⟨d0, y0⟩ := hL.at 0 _ rfl
        obtain ⟨d1, y1⟩ := hL.at 1 _ rfl
        obtain ⟨d2, y2⟩ := hL.at 2 _ rfl
        obtain ⟨d3, y3⟩ := hL.at 3 _ rfl
        obtain ⟨d4, y4⟩ := hL.at 4 _ rfl
        obtain ⟨d5, y5⟩ := hL.at 5 _ rfl
        obtain ⟨d6, y6⟩ := hL.at 6 _ rfl
        obtain ⟨d7, y7⟩ := hL.at 7 _ rfl
        obtain ⟨d8, y8⟩ := hL.at 8 _ rfl
        obtain ⟨c0, z0⟩ := HO.out.zero.at 0 _ rfl
        obtain ⟨c1, z1⟩ := HO.out.zero.at 1 _ rfl
        obtain ⟨c2, z2⟩ := HO.out.zero.at 2 _ rfl
        obtain ⟨c3, z3⟩ := HO.out.zero.at 3 _ rfl
        obtain ⟨c4, z4⟩ := HO.out.zero.at 4 _ rfl
        obtain ⟨c5, z5⟩ := HO.out.zero.at 5 _ rfl
        obtain ⟨c6, z6⟩ := HO.out.zero.at 6 _ rfl
        obtain ⟨c7, z7⟩ := HO.out.zero.at 7 _ rfl
        obtain ⟨c8, z8⟩ := HO.out.zero.at 8 _ rfl
        clear hL hp hv HZ HV
        go_wp2_with fail
        refine bodyPost_ret (v := .tuple #[.agg #[.int .u16 v0, .int .u16 v1, .int .u16 v2, .int .u16 v3, .int .u16 v4, .int .u16 v5, .int .u16 v6, .int .u16 v7, .int .i64 (ws.length : Int)], .bool true]) (by simp [results, Tryz.results21, go_sem, c0, c1, c2, c3, c4, c5, c6, c7, c8]) rfl ⟨HF.out, ?_⟩
        iterate 9 refine set_at ?_ _ _
        exact HO.out.ok.1
      · have HC := hid (cut_any rs ⟨#[58]⟩ wr (by have := HR.out; omega) (by simp) (HG.out.step HO.out.ok.1))
        have hP := paL_cut 58 rs.data.toList
        have hl := cuG_len [58] rs.data.toList
        have hle := cuG_less [58] (by simp) rs.data.toList
        have e58 : (ByteArray.mk #[58]).data.toList = [58] := rfl
        rw [e58] at HC
        generalize (cuG [58] rs.data.toList).1 = b1 at *
        generalize (cuG [58] rs.data.toList).2.1 = r1 at *
        generalize (cuG [58] rs.data.toList).2.2 = f1 at *
        rw [len_size] at hl hle
        have HRo := HR.out
        have HD := hid (fun W => word_any ⟨b1.toArray⟩ W (by show b1.toArray.size ≤ _; unfold maxLen; simp; omega))
        have HV4 := hid (fun W (h : Below w.heap.size w W) => v4_any ⟨b1.toArray⟩ W (by show b1.toArray.size ≤ _; simp; omega) (HG.out.step h))
        have eb : (ByteArray.mk b1.toArray).data.toList = b1 := by simp
        have er : (ByteArray.mk r1.toArray).data.toList = r1 := by simp
        have HRR : Hid ((ByteArray.mk r1.toArray).size ≤ s.size) := by
          show r1.toArray.size ≤ _; simp; omega
        have HME : Hid (szV (.string (ByteArray.mk r1.toArray)) + moV (.bool f1) < szV (.string rs) + moV (.bool true)) := by
          show r1.toArray.size + _ < rs.size + 1
          cases f1
          · show r1.toArray.size + 0 < _; simp; omega
          · have := hle rfl
            show r1.toArray.size + 1 < _; simp; omega
        rw [eb] at HD HV4
        have HV2 : Hid (reL q s.data.toList = reS q ws (b1 :: if f1 = true then paL 58 (ByteArray.mk r1.toArray).data.toList else [])) := by
          show _ = _
          rw [HV.out, if_pos rfl, hP, er]
        clear hP hl hle e58 eb er HV HR HRo
        generalize (ByteArray.mk r1.toArray) = rr at *
        generalize (ByteArray.mk b1.toArray) = bb at *
        by_cases hn : 0 ≤ woL b1
        · have hv : woV b1 = woL b1 := if_pos hn
          have hd : decide (0 ≤ woL b1) = true := decide_eq_true hn
          rw [hv, hd] at HD
          rw [reS_word q ws b1 _ hn] at HV2
          clear hv hd hn HV4
          generalize woL b1 = x at *
          by_cases h8 : ws.length < 8
          · have HP := hid (fun W (h : Rd w W ws) => put_yes x h.out h8)
            have H8 := hid h8
            clear HZ h8
            go_wp2_with fail
            refine HC.out.mono ?_
            rintro e w1 ⟨rfl, hb1⟩
            have HO1 := hid (HO.out.step hb1)
            clear hb1 HO HC
            go_wp2_with fail
            refine (HD.out _).mono ?_
            rintro e w1 ⟨rfl, rfl⟩
            go_wp2_with fail
            refine (HP.out _ HO1.out).mono ?_
            rintro e w2 ⟨rfl, hp2⟩
            have HO2 := hid (HO1.out.put hp2 H8.out)
            clear hp2 HO1 HP HD
            go_wp2_with fail
            go_roundw
            case rel => exact ⟨rr, f1, ws ++ [x], rfl, rfl, HRR.out, HO2.out, HV2.out⟩
            case measure => exact HME.out
          · have h9 : ws.length = 8 := by have := HO.out.le; omega
            have HP := hid (fun W (h : Rd w W ws) => put_no x h.out h9)
            have HB := hid (HZ.out (by rw [HV2.out]; exact reS_over q _ _ (by simp; omega)))
            clear HZ h8 h9
            go_wp2_with fail
            refine HC.out.mono ?_
            rintro e w1 ⟨rfl, hb1⟩
            have HO1 := hid (HO.out.step hb1)
            clear hb1 HO HC
            go_wp2_with fail
            refine (HD.out _).mono ?_
            rintro e w1 ⟨rfl, rfl⟩
            go_wp2_with fail
            refine (HP.out _ HO1.out).mono ?_
            rintro e w1 ⟨rfl, rfl⟩
            obtain ⟨c0, z0⟩ := HO1.out.zero.at 0 _ rfl
            obtain ⟨c1, z1⟩ := HO1.out.zero.at 1 _ rfl
            obtain ⟨c2, z2⟩ := HO1.out.zero.at 2 _ rfl
            obtain ⟨c3, z3⟩ := HO1.out.zero.at 3 _ rfl
            obtain ⟨c4, z4⟩ := HO1.out.zero.at 4 _ rfl
            obtain ⟨c5, z5⟩ := HO1.out.zero.at 5 _ rfl
            obtain ⟨c6, z6⟩ := HO1.out.zero.at 6 _ rfl
            obtain ⟨c7, z7⟩ := HO1.out.zero.at 7 _ rfl
            obtain ⟨c8, z8⟩ := HO1.out.zero.at 8 _ rfl
            go_wp2_with fail
            refine bodyPost_ret (v := .tuple #[.agg z9, .bool false]) (by simp [z9, results, Tryz.results21, go_sem, c0, c1, c2, c3, c4, c5, c6, c7, c8]) rfl (HB.out _ _ HO1 _ _ _ _ _ _ _ _ _)
        · have hv : woV b1 = 0 := if_neg hn
          have hd : decide (0 ≤ woL b1) = false := decide_eq_false hn
          rw [hv, hd] at HD
          obtain ⟨a, b, c, d, k, h4, g0, g1, g2, g3, g4, g5, g6, g7⟩ := v4L_bd b1
          have HV5 : Hid (∀ W, Below w.heap.size w W → Calls Tryz.prog 7 #[.string bb] W fun e w' => e = .returned (.tuple #[.agg #[.int .u8 a, .int .u8 b, .int .u8 c, .int .u8 d], .bool k]) ∧ Below W.heap.size W w') := by
            have h := HV4
            rw [h4] at h
            exact h
          clear HV4 hv hd
          by_cases hc : k = true ∧ f1 = false ∧ q = true
          · obtain ⟨rfl, rfl, rfl⟩ := hc
            have HV3 : Hid (reL true s.data.toList = if ws.length + 2 ≤ 8 then some (ws ++ [a * 256 + b, c * 256 + d]) else none) := by
              show _ = _
              rw [HV2.out]; exact reS_four ws b1 a b c d hn h4
            have HK1 := hid (fun W => pack_any a b W g0 g1 g2 g3)
            have HK2 := hid (fun W => pack_any c d W g4 g5 g6 g7)
            clear hn h4 HV2 g0 g1 g2 g3 g4 g5 g6 g7
            generalize a * 256 + b = x at *
            generalize c * 256 + d = y at *
            by_cases h8 : ws.length = 8
            · have HB := hid (HZ.out (by rw [HV3.out, if_neg (by omega)]))
              have HP := hid (fun W (h : Rd w W ws) => put_no x h.out h8)
              clear HZ HV3
              go_wp2_with fail
              refine HC.out.mono ?_
              rintro e w1 ⟨rfl, hb1⟩
              have HO1 := hid (HO.out.step hb1)
              clear hb1 HO HC
              go_wp2_with fail
              refine (HD.out _).mono ?_
              rintro e w1 ⟨rfl, rfl⟩
              go_wp2_with fail
              refine (HV5.out _ HO1.out.ok.1).mono ?_
              rintro e w2 ⟨rfl, hb2⟩
              have HO2 : Hid (w.heap.size + 2 ≤ w2.heap.size) := Nat.le_trans HO1.out.sz hb2.size
              have HO3 := hid ((HO1.out.step hb2).step ((Below.refl _ _).alloc (Nat.le_refl _) (.cells #[.int .u8 a, .int .u8 b, .int .u8 c, .int .u8 d] 23)))
              have HT := hid (four_li w2 a b c d 23)
              go_upto_region 11 with fail
              generalize w2.alloc (.cells #[.int .u8 a, .int .u8 b, .int .u8 c, .int .u8 d] 23) = w3 at *
              clear hb2 HO1 HD
              obtain ⟨e0, _⟩ := HT.out.at 0 _ rfl
              obtain ⟨e1, _⟩ := HT.out.at 1 _ rfl
              go_wp2_with fail
              refine (HK1.out _).mono ?_
              rintro e w' ⟨rfl, hw'⟩
              subst hw'
              go_wp2_with fail
              refine (HP.out _ HO3.out).mono ?_
              rintro e w5 ⟨rfl, hw3⟩
              subst hw3
              obtain ⟨c0, z0⟩ := HO3.out.zero.at 0 _ rfl
              obtain ⟨c1, z1⟩ := HO3.out.zero.at 1 _ rfl
              obtain ⟨c2, z2⟩ := HO3.out.zero.at 2 _ rfl
              obtain ⟨c3, z3⟩ := HO3.out.zero.at 3 _ rfl
              obtain ⟨c4, z4⟩ := HO3.out.zero.at 4 _ rfl
              obtain ⟨c5, z5⟩ := HO3.out.zero.at 5 _ rfl
              obtain ⟨c6, z6⟩ := HO3.out.zero.at 6 _ rfl
              obtain ⟨c7, z7⟩ := HO3.out.zero.at 7 _ rfl
              obtain ⟨c8, z8⟩ := HO3.out.zero.at 8 _ rfl
              go_wp2_with fail
              refine bodyPost_ret (v := .tuple #[.agg z9, .bool false]) (by simp [z9, results, Tryz.results21, go_sem, c0, c1, c2, c3, c4, c5, c6, c7, c8]) rfl (HB.out _ _ HO3 _ _ _ _ _ _ _ _ _)
            · by_cases h7 : ws.length = 7
              · have HB := hid (HZ.out (by rw [HV3.out, if_neg (by omega)]))
                have HP := hid (fun W (h : Rd w W ws) => put_yes x h.out (by omega))
                have HP2 := hid (fun W (h : Rd w W (ws ++ [x])) => put_no y h.out (by simp; omega))
                clear HZ HV3
                go_wp2_with fail
                refine HC.out.mono ?_
                rintro e w1 ⟨rfl, hb1⟩
                have HO1 := hid (HO.out.step hb1)
                clear hb1 HO HC
                go_wp2_with fail
                refine (HD.out _).mono ?_
                rintro e w1 ⟨rfl, rfl⟩
                go_wp2_with fail
                refine (HV5.out _ HO1.out.ok.1).mono ?_
                rintro e w2 ⟨rfl, hb2⟩
                have HO2 : Hid (w.heap.size + 2 ≤ w2.heap.size) := Nat.le_trans HO1.out.sz hb2.size
                have HO3 := hid ((HO1.out.step hb2).step ((Below.refl _ _).alloc (Nat.le_refl _) (.cells #[.int .u8 a, .int .u8 b, .int .u8 c, .int .u8 d] 23)))
                have HT := hid (four_li w2 a b c d 23)
                go_upto_region 11 with fail
                generalize w2.alloc (.cells #[.int .u8 a, .int .u8 b, .int .u8 c, .int .u8 d] 23) = w3 at *
                clear hb2 HO1 HD
                obtain ⟨e0, _⟩ := HT.out.at 0 _ rfl
                obtain ⟨e1, _⟩ := HT.out.at 1 _ rfl
                go_wp2_with fail
                refine (HK1.out _).mono ?_
                rintro e w' ⟨rfl, hw'⟩
                subst hw'
                go_wp2_with fail
                refine (HP.out _ HO3.out).mono ?_
                rintro e w5 ⟨rfl, hp3⟩
                have HO4 := hid (HO3.out.put hp3 (by omega))
                have HT4 := hid (hp3.keep _ _ (by have := HO2.out; omega) HT.out)
                clear hp3 HO3 HT e0 e1
                obtain ⟨e2, _⟩ := HT4.out.at 2 _ rfl
                obtain ⟨e3, _⟩ := HT4.out.at 3 _ rfl
                go_wp2_with fail
                refine (HK2.out _).mono ?_
                rintro e w' ⟨rfl, hw'⟩
                subst hw'
                go_wp2_with fail
                refine (HP2.out _ HO4.out).mono ?_
                rintro e w4 ⟨rfl, hw4⟩
                subst hw4
                obtain ⟨c0, z0⟩ := HO4.out.zero.at 0 _ rfl
                obtain ⟨c1, z1⟩ := HO4.out.zero.at 1 _ rfl
                obtain ⟨c2, z2⟩ := HO4.out.zero.at 2 _ rfl
                obtain ⟨c3, z3⟩ := HO4.out.zero.at 3 _ rfl
                obtain ⟨c4, z4⟩ := HO4.out.zero.at 4 _ rfl
                obtain ⟨c5, z5⟩ := HO4.out.zero.at 5 _ rfl
                obtain ⟨c6, z6⟩ := HO4.out.zero.at 6 _ rfl
                obtain ⟨c7, z7⟩ := HO4.out.zero.at 7 _ rfl
                obtain ⟨c8, z8⟩ := HO4.out.zero.at 8 _ rfl
                go_wp2_with fail
                refine bodyPost_ret (v := .tuple #[.agg z9, .bool false]) (by simp [z9, results, Tryz.results21, go_sem, c0, c1, c2, c3, c4, c5, c6, c7, c8]) rfl (HB.out _ _ HO4 _ _ _ _ _ _ _ _ _)
              · have HP := hid (fun W (h : Rd w W ws) => put_yes x h.out (by have := h.le; omega))
                have HP2 := hid (fun W (h : Rd w W (ws ++ [x])) => put_yes y h.out (by have := h.le; simp at this ⊢; omega))
                have h6 : ws.length ≤ 6 := by have := HO.out.le; omega
                have HV6 : Hid (reL true s.data.toList = reS true ((ws ++ [x]) ++ [y]) (if false = true then paL 58 rr.data.toList else [])) := by
                  show _ = _
                  rw [HV3.out, if_pos (by omega), if_neg (by simp), reS_nil _ _ (by simp; omega)]; simp
                have H6 := hid h6
                clear HZ HV3 h6
                go_wp2_with fail
                refine HC.out.mono ?_
                rintro e w1 ⟨rfl, hb1⟩
                have HO1 := hid (HO.out.step hb1)
                clear hb1 HO HC
                go_wp2_with fail
                refine (HD.out _).mono ?_
                rintro e w1 ⟨rfl, rfl⟩
                go_wp2_with fail
                refine (HV5.out _ HO1.out.ok.1).mono ?_
                rintro e w2 ⟨rfl, hb2⟩
                have HO2 : Hid (w.heap.size + 2 ≤ w2.heap.size) := Nat.le_trans HO1.out.sz hb2.size
                have HO3 := hid ((HO1.out.step hb2).step ((Below.refl _ _).alloc (Nat.le_refl _) (.cells #[.int .u8 a, .int .u8 b, .int .u8 c, .int .u8 d] 23)))
                have HT := hid (four_li w2 a b c d 23)
                go_upto_region 11 with fail
                generalize w2.alloc (.cells #[.int .u8 a, .int .u8 b, .int .u8 c, .int .u8 d] 23) = w3 at *
                clear hb2 HO1 HD
                obtain ⟨e0, _⟩ := HT.out.at 0 _ rfl
                obtain ⟨e1, _⟩ := HT.out.at 1 _ rfl
                go_wp2_with fail
                refine (HK1.out _).mono ?_
                rintro e w' ⟨rfl, hw'⟩
                subst hw'
                go_wp2_with fail
                refine (HP.out _ HO3.out).mono ?_
                rintro e w5 ⟨rfl, hp3⟩
                have HO4 := hid (HO3.out.put hp3 (by have := H6.out; omega))
                have HT4 := hid (hp3.keep _ _ (by have := HO2.out; omega) HT.out)
                clear hp3 HO3 HT e0 e1
                obtain ⟨e2, _⟩ := HT4.out.at 2 _ rfl
                obtain ⟨e3, _⟩ := HT4.out.at 3 _ rfl
                go_wp2_with fail
                refine (HK2.out _).mono ?_
                rintro e w' ⟨rfl, hw'⟩
                subst hw'
                go_wp2_with fail
                refine (HP2.out _ HO4.out).mono ?_
                rintro e w4 ⟨rfl, hp4⟩
                have HO5 := hid (HO4.out.put hp4 (by have := H6.out; simp; omega))
                clear hp4 HO4
                go_wp2_with fail
                go_roundw
                case rel => exact ⟨rr, false, (ws ++ [x]) ++ [y], rfl, rfl, HRR.out, HO5.out, HV6.out⟩
                case measure => exact HME.out
          · have HB := hid (HZ.out (by
              rw [HV2.out]
              refine reS_bad q ws b1 _ hn (fun h => hc ?_)
              rw [h4] at h
              exact ⟨h.1, none_iff.1 h.2.1, h.2.2⟩))
            clear HZ HV2 h4 hn g0 g1 g2 g3 g4 g5 g6 g7
            cases k
            · clear hc
              go_wp2_with fail
              refine HC.out.mono ?_
              rintro e w1 ⟨rfl, hb1⟩
              have HO1 := hid (HO.out.step hb1)
              clear hb1 HO HC
              go_wp2_with fail
              refine (HD.out _).mono ?_
              rintro e w1 ⟨rfl, rfl⟩
              go_wp2_with fail
              refine (HV5.out _ HO1.out.ok.1).mono ?_
              rintro e w2 ⟨rfl, hb2⟩
              have HO2 : Hid (w.heap.size + 2 ≤ w2.heap.size) := Nat.le_trans HO1.out.sz hb2.size
              have HO3 := hid ((HO1.out.step hb2).step ((Below.refl _ _).alloc (Nat.le_refl _) (.cells #[.int .u8 a, .int .u8 b, .int .u8 c, .int .u8 d] 23)))
              have HT := hid (four_li w2 a b c d 23)
              go_upto_region 11 with fail
              generalize w2.alloc (.cells #[.int .u8 a, .int .u8 b, .int .u8 c, .int .u8 d] 23) = w3 at *
              clear hb2 HO1 HD
              obtain ⟨c0, z0⟩ := HO3.out.zero.at 0 _ rfl
              obtain ⟨c1, z1⟩ := HO3.out.zero.at 1 _ rfl
              obtain ⟨c2, z2⟩ := HO3.out.zero.at 2 _ rfl
              obtain ⟨c3, z3⟩ := HO3.out.zero.at 3 _ rfl
              obtain ⟨c4, z4⟩ := HO3.out.zero.at 4 _ rfl
              obtain ⟨c5, z5⟩ := HO3.out.zero.at 5 _ rfl
              obtain ⟨c6, z6⟩ := HO3.out.zero.at 6 _ rfl
              obtain ⟨c7, z7⟩ := HO3.out.zero.at 7 _ rfl
              obtain ⟨c8, z8⟩ := HO3.out.zero.at 8 _ rfl
              go_wp2_with fail
              refine bodyPost_ret (v := .tuple #[.agg z9, .bool false]) (by simp [z9, results, Tryz.results21, go_sem, c0, c1, c2, c3, c4, c5, c6, c7, c8]) rfl (HB.out _ _ HO3 _ _ _ _ _ _ _ _ _)
            · cases f1
              · cases q
                · clear hc
                  go_wp2_with fail
                  refine HC.out.mono ?_
                  rintro e w1 ⟨rfl, hb1⟩
                  have HO1 := hid (HO.out.step hb1)
                  clear hb1 HO HC
                  go_wp2_with fail
                  refine (HD.out _).mono ?_
                  rintro e w1 ⟨rfl, rfl⟩
                  go_wp2_with fail
                  refine (HV5.out _ HO1.out.ok.1).mono ?_
                  rintro e w2 ⟨rfl, hb2⟩
                  have HO2 : Hid (w.heap.size + 2 ≤ w2.heap.size) := Nat.le_trans HO1.out.sz hb2.size
                  have HO3 := hid ((HO1.out.step hb2).step ((Below.refl _ _).alloc (Nat.le_refl _) (.cells #[.int .u8 a, .int .u8 b, .int .u8 c, .int .u8 d] 23)))
                  have HT := hid (four_li w2 a b c d 23)
                  go_upto_region 11 with fail
                  generalize w2.alloc (.cells #[.int .u8 a, .int .u8 b, .int .u8 c, .int .u8 d] 23) = w3 at *
                  clear hb2 HO1 HD
                  obtain ⟨c0, z0⟩ := HO3.out.zero.at 0 _ rfl
                  obtain ⟨c1, z1⟩ := HO3.out.zero.at 1 _ rfl
                  obtain ⟨c2, z2⟩ := HO3.out.zero.at 2 _ rfl
                  obtain ⟨c3, z3⟩ := HO3.out.zero.at 3 _ rfl
                  obtain ⟨c4, z4⟩ := HO3.out.zero.at 4 _ rfl
                  obtain ⟨c5, z5⟩ := HO3.out.zero.at 5 _ rfl
                  obtain ⟨c6, z6⟩ := HO3.out.zero.at 6 _ rfl
                  obtain ⟨c7, z7⟩ := HO3.out.zero.at 7 _ rfl
                  obtain ⟨c8, z8⟩ := HO3.out.zero.at 8 _ rfl
                  go_wp2_with fail
                  refine bodyPost_ret (v := .tuple #[.agg z9, .bool false]) (by simp [z9, results, Tryz.results21, go_sem, c0, c1, c2, c3, c4, c5, c6, c7, c8]) rfl (HB.out _ _ HO3 _ _ _ _ _ _ _ _ _)
                · exact absurd ⟨rfl, rfl, rfl⟩ hc
              · clear hc
                go_wp2_with fail
                refine HC.out.mono ?_
                rintro e w1 ⟨rfl, hb1⟩
                have HO1 := hid (HO.out.step hb1)
                clear hb1 HO HC
                go_wp2_with fail
                refine (HD.out _).mono ?_
                rintro e w1 ⟨rfl, rfl⟩
                go_wp2_with fail
                refine (HV5.out _ HO1.out.ok.1).mono ?_
                rintro e w2 ⟨rfl, hb2⟩
                have HO2 : Hid (w.heap.size + 2 ≤ w2.heap.size) := Nat.le_trans HO1.out.sz hb2.size
                have HO3 := hid ((HO1.out.step hb2).step ((Below.refl _ _).alloc (Nat.le_refl _) (.cells #[.int .u8 a, .int .u8 b, .int .u8 c, .int .u8 d] 23)))
                have HT := hid (four_li w2 a b c d 23)
                go_upto_region 11 with fail
                generalize w2.alloc (.cells #[.int .u8 a, .int .u8 b, .int .u8 c, .int .u8 d] 23) = w3 at *
                clear hb2 HO1 HD
                obtain ⟨c0, z0⟩ := HO3.out.zero.at 0 _ rfl
                obtain ⟨c1, z1⟩ := HO3.out.zero.at 1 _ rfl
                obtain ⟨c2, z2⟩ := HO3.out.zero.at 2 _ rfl
                obtain ⟨c3, z3⟩ := HO3.out.zero.at 3 _ rfl
                obtain ⟨c4, z4⟩ := HO3.out.zero.at 4 _ rfl
                obtain ⟨c5, z5⟩ := HO3.out.zero.at 5 _ rfl
                obtain ⟨c6, z6⟩ := HO3.out.zero.at 6 _ rfl
                obtain ⟨c7, z7⟩ := HO3.out.zero.at 7 _ rfl
                obtain ⟨c8, z8⟩ := HO3.out.zero.at 8 _ rfl
                go_wp2_with fail
                refine bodyPost_ret (v := .tuple #[.agg z9, .bool false]) (by simp [z9, results, Tryz.results21, go_sem, c0, c1, c2, c3, c4, c5, c6, c7, c8]) rfl (HB.out _ _ HO3 _ _ _ _ _ _ _ _ _)
end Ip
end Go.Proofs.YteimhepmcjdbpaaGreatDoor
