import Derived.Test.YtclcmkklonnalaaGreatNfc10x13
namespace Go.Proofs.YtclcmkklonnalaaGreat
namespace Nf
open Go.RowKit Od Pr Ha

/-- The second of a pair, a vowel, or a tail. -/
def secB (r : Int) : Bool := s1 r || witB r 4449 21 || witB r 4520 27
theorem s1_row (r : Int) : s1 r = true ↔ ∃ x ∈ allP, skipB x = false ∧ x.2.2 = r := by rw [← rs_eq, rs_any r allP (fun _ h => h)]
theorem mk_sec {a b : Int} (h : mkB a b = true) : secB b = true := by
  unfold mkB at h
  unfold secB
  by_cases h1 : u2 a b = true
  · have : s1 b = true := by
      unfold u2 at h1
      cases hu : upF allP (a, b) with
      | none => rw [hu] at h1; cases h1
      | some z =>
        obtain ⟨R, hR, hs, e, _⟩ := up_mem allP _ z hu
        simp only [Prod.mk.injEq] at e
        exact (s1_row b).2 ⟨R, hR, hs, e.2.symm⟩
    rw [this]; rfl
  · by_cases h2 : lvB a b = true
    · unfold lvB at h2
      rw [Bool.and_eq_true] at h2
      rw [h2.2]; simp
    · have h3 : otB a b = true := by
        cases hu : u2 a b <;> cases hl : lvB a b <;> simp_all
      unfold otB at h3
      rw [Bool.and_eq_true] at h3
      rw [h3.2]; simp

/-- An excluded one is in the table. -/
theorem ex_fin : ([836, 2392, 2393, 2394, 2395, 2396, 2397, 2398, 2399] : List Int).all (fun r => allP.any (fun x => x.1 == r)) = true := by kernel_rfl
set_option maxRecDepth 1000000 in
theorem rows_more : allP.all (fun x => !(apF 6 x.1 == [x.1])) = true := by kernel_rfl
theorem ex_row {r : Int} (h : exq r = true) : ∃ x ∈ allP, x.1 = r := by
  rw [← rex_eq] at h
  unfold rexq at h
  rw [Bool.or_eq_true] at h
  rcases h with h | h
  · refine Classical.byContradiction fun hn => ?_
    have e := dn_out r (fun x hx e => hn ⟨x, hx, e⟩)
    unfold dnP at e
    rw [e] at h
    cases h
  · have hm : r ∈ ([836, 2392, 2393, 2394, 2395, 2396, 2397, 2398, 2399] : List Int) := by
      unfold exB at h
      simp only [Bool.or_eq_true, Bool.and_eq_true, beq_iff_eq, decide_eq_true_eq] at h
      simp only [List.mem_cons, List.not_mem_nil, or_false]
      omega
    have := List.all_eq_true.1 ex_fin r hm
    obtain ⟨x, hx, e⟩ := List.any_eq_true.1 this
    exact ⟨x, hx, by simpa using e⟩
theorem ex_ap {r : Int} (h : apP r = [r]) : exq r = false := by
  cases he : exq r with
  | false => rfl
  | true =>
    obtain ⟨x, hx, rfl⟩ := ex_row he
    have := List.all_eq_true.1 rows_more x hx
    have h' : apF 6 x.1 = [x.1] := h
    rw [h'] at this
    simp at this
theorem ex_syl {r : Int} (h : sylB r = true) : exq r = false := by
  cases he : exq r with
  | false => rfl
  | true =>
    obtain ⟨x, hx, rfl⟩ := ex_row he
    rw [syl_row x hx] at h; cases h
theorem ex_mk {a b : Int} (h : mkB a b = true) : exq (mkI a b) = false := by
  unfold mkI
  split
  · exact (bk2 a b ‹_›).2.2.2
  · split
    · exact ex_syl (lv_parts a b ‹_›).1
    · have h3 : otB a b = true := by
        unfold mkB at h
        cases hu : u2 a b <;> cases hl : lvB a b <;> simp_all
      exact ex_syl (ot_parts a b h3).2.2.1
theorem noex_fold : ∀ (l : List Int) (s : CS), (∀ x ∈ l, apP x = [x]) → (∀ y ∈ outC s, exq y = false) → ∀ y ∈ outC (l.foldl (stepC clsP) s), exq y = false
  | [], _, _, h => h
  | r :: l, s, ha, h => by
    rw [List.foldl_cons]
    refine noex_fold l _ (fun x hx => ha x (by simp [hx])) ?_
    by_cases ht : tryC clsP s r = true
    · obtain ⟨x, e, hm⟩ := try_some ht
      obtain ⟨A, o, M⟩ := s
      simp only at e
      subst e
      rw [step_join ht]
      intro y hy
      by_cases e : y = mkI x r
      · rw [e]; exact ex_mk hm
      · refine h y ?_
        simp [outC] at hy ⊢
        rcases hy with hy | hy | hy
        · exact .inl hy
        · exact (e hy).elim
        · exact .inr (.inr hy)
    · rw [outC_no clsP s r (by simpa using ht)]
      intro y hy
      rcases List.mem_append.1 hy with hy | hy
      · exact h y hy
      · simp at hy; subst hy; exact ex_ap (ha y (by simp))
/-- Nothing that is excluded is in the form that is put together. -/
theorem nfc_noex (l : List Int) : ∀ y ∈ nfcP clsP l, exq y = false := noex_fold _ _ (nfd_atoms clsP l) (fun y hy => by simp [outC] at hy)

theorem ord_split (c : Int → Int) : ∀ (A : List Int) (x : Int) (B : List Int), Od.Ord c (A ++ x :: B) ↔ Od.Ord c (A ++ [x]) ∧ Od.Ord c (x :: B)
  | [], x, B => by simp [Od.Ord]
  | [a], x, B => by simp [Od.Ord]
  | a :: b :: A, x, B => by
    have ih := ord_split c (b :: A) x B
    simp only [List.cons_append, Od.Ord] at ih ⊢
    rw [ih, and_assoc]
theorem ord_last (c : Int → Int) : ∀ (A : List Int) (x z : Int), c z = 0 → Od.Ord c (A ++ [x]) → Od.Ord c (A ++ [z])
  | [], _, _, _, _ => trivial
  | [a], x, z, h, _ => by simp only [List.cons_append, List.nil_append, Od.Ord]; exact ⟨by omega, trivial⟩
  | a :: b :: A, x, z, h, h' => by
    simp only [List.cons_append, Od.Ord] at h' ⊢
    exact ⟨h'.1, ord_last c (b :: A) x z h h'.2⟩
theorem ord_zero (c : Int → Int) (z : Int) (h : c z = 0) : ∀ (l : List Int), Od.Ord c l → Od.Ord c (z :: l)
  | [], _ => trivial
  | y :: l, h' => ⟨by omega, h'⟩
theorem ord_step {s : CS} {r : Int} {R : List Int} (hs : okC s) (h : Od.Ord clsP (outC s ++ r :: R)) : Od.Ord clsP (outC (stepC clsP s r) ++ R) := by
  by_cases ht : tryC clsP s r = true
  · obtain ⟨x, e, hm⟩ := try_some ht
    obtain ⟨A, o, M⟩ := s
    simp only at e
    subst e
    rw [step_join ht]
    have hb := ht
    unfold tryC at hb
    simp only [Bool.and_eq_true, Bool.not_eq_true', Bool.and_eq_false_iff, decide_eq_false_iff_not] at hb
    have e1 : outC (A, some x, M) ++ r :: R = A ++ x :: (M ++ r :: R) := by simp [outC]
    have e2 : outC (A, some (mkI x r), M) ++ R = A ++ mkI x r :: (M ++ R) := by simp [outC]
    rw [e1, ord_split] at h
    rw [e2, ord_split]
    refine ⟨ord_last clsP A x _ (mk_cls hm) h.1, ord_zero clsP _ (mk_cls hm) _ ?_⟩
    have h2 := h.2.tail
    rcases List.eq_nil_or_concat M with rfl | ⟨M', m, rfl⟩
    · exact h2.tail
    · have e3 : M' ++ [m] ++ r :: R = M' ++ m :: (r :: R) := by simp
      have e4 : M' ++ [m] ++ R = M' ++ m :: R := by simp
      rw [List.concat_eq_append] at h2 hb hs ⊢
      rw [e3, ord_split] at h2
      rw [e4, ord_split]
      refine ⟨h2.1, ?_⟩
      have h3 := h2.2
      have hm0 := hs.1 m (by simp)
      have hm1 := (cls_bd m).1
      have hg := (gr_ge clsP (M' ++ [m]) 0).2 m (by simp)
      have hge : gr clsP (M' ++ [m]) = (M' ++ [m]).foldl (fun g r => if g < clsP r then clsP r else g) 0 := rfl
      rw [← hge] at hg
      have hlt : clsP m < clsP r := by rcases hb.1 with hb | hb <;> omega
      cases R with
      | nil => trivial
      | cons y R =>
        simp only [Od.Ord] at h3 ⊢
        exact ⟨by omega, h3.2.2⟩
  · rw [outC_no clsP s r (by simpa using ht), List.append_assoc]
    exact h
theorem ord_fold : ∀ (l : List Int) (s : CS), okC s → Od.Ord clsP (outC s ++ l) → Od.Ord clsP (outC (l.foldl (stepC clsP) s))
  | [], s, _, h => by rw [List.append_nil] at h; exact h
  | r :: l, s, hs, h => by
    rw [List.foldl_cons]
    exact ord_fold l _ (okC_step r hs) (ord_step hs h)
theorem okC_init : okC ([], none, []) := ⟨fun m hm => by simp at hm, rfl⟩
/-- What is put together is in order. -/
theorem nfc_ord (l : List Int) : Od.Ord clsP (nfcP clsP l) := ord_fold _ _ okC_init (ord_srt clsP _)

/-- A quick look. -/
def quickP (l : List Int) : Int := if srt clsP l = l then if l.any exq = true then -1 else if l.any secB = true then 0 else 1 else -1
/-- What is No isn't its own form. -/
theorem quick_no (l : List Int) (h : quickP l = -1) : nfcP clsP l ≠ l := by
  intro e
  unfold quickP at h
  have h1 : srt clsP l = l := by
    have := nfc_ord l
    rw [e] at this
    exact this.srt_eq
  have h2 : ¬ l.any exq = true := by
    intro ha
    obtain ⟨x, hx, hh⟩ := List.any_eq_true.1 ha
    rw [← e] at hx
    rw [nfc_noex l x hx] at hh; cases hh
  rw [if_pos h1, if_neg h2] at h
  split at h <;> omega
end Nf
end Go.Proofs.YtclcmkklonnalaaGreat

namespace Go.Proofs.YtclcmkklonnalaaGreat
namespace Nf
open Go.RowKit Od Pr Ha

/-- What a starter and some code points make, one after the other. -/
def chainF (B : Int → Int → Bool) (I : Int → Int → Int) : Int → List Int → Option Int
  | x, [] => some x
  | x, d :: ds => if B x d = true then chainF B I (I x d) ds else none
theorem chainF_snoc (B : Int → Int → Bool) (I : Int → Int → Int) : ∀ (ds : List Int) (x b z : Int), chainF B I x ds = some z → B z b = true → chainF B I x (ds ++ [b]) = some (I z b)
  | [], x, b, z, h, hb => by
    simp only [chainF, Option.some.injEq] at h
    subst h
    simp only [List.nil_append, chainF]
    rw [if_pos hb]
  | d :: ds, x, b, z, h, hb => by
    simp only [List.cons_append, chainF] at h ⊢
    split at h
    · rw [if_pos ‹_›]; exact chainF_snoc B I ds _ b z h hb
    · cases h
theorem chainF_cons {B : Int → Int → Bool} {I : Int → Int → Int} {x d z : Int} {ds : List Int} (h : chainF B I x (d :: ds) = some z) : B x d = true ∧ chainF B I (I x d) ds = some z := by
  simp only [chainF] at h
  split at h
  · exact ⟨‹_›, h⟩
  · cases h
theorem chainF_nil {B : Int → Int → Bool} {I : Int → Int → Int} {x z : Int} (h : chainF B I x [] = some z) : x = z := by
  simpa only [chainF, Option.some.injEq] using h
def chain : Int → List Int → Option Int := chainF mkB mkI

/-- What holds of a row that isn't excluded. -/
def ckR (x : R3) : Bool :=
  skipB x || ((dnP x.2.2).2.2 == 0 && !sylB x.2.2 && decide (0 < clsP x.2.2) && !sylB x.2.1 && (match dnP x.2.1 with
    | (_, q, n) => !(n == 1) && !exB x.2.1 && (if n = 0 then clsP x.2.1 == 0 && !(allP.any fun y => y.2.2 == x.2.1 && !skipB y) && !witB x.2.1 4449 21 && !witB x.2.1 4520 27 else decide (clsP q ≤ clsP x.2.2))))
set_option maxRecDepth 1000000 in
theorem ck_s : singT.all ckR = true := by kernel_rfl
set_option maxRecDepth 1000000 in
theorem ck_0 : pairT0.all ckR = true := by kernel_rfl
set_option maxRecDepth 1000000 in
theorem ck_1 : pairT1.all ckR = true := by kernel_rfl
set_option maxRecDepth 1000000 in
theorem ck_2 : pairT2.all ckR = true := by kernel_rfl
set_option maxRecDepth 1000000 in
theorem ck_3 : pairT3.all ckR = true := by kernel_rfl
set_option maxRecDepth 1000000 in
theorem ck_4 : pairT4.all ckR = true := by kernel_rfl
set_option maxRecDepth 1000000 in
theorem ck_5 : pairT5.all ckR = true := by kernel_rfl
set_option maxRecDepth 1000000 in
theorem ck_6 : pairT6.all ckR = true := by kernel_rfl
theorem rows_ck : allP.all ckR = true := by
  rw [← parts_all]
  simp only [List.all_append, ck_s, ck_0, ck_1, ck_2, ck_3, ck_4, ck_5, ck_6, Bool.and_self]

/-- How a code point that isn't excluded falls apart. -/
structure Fine (r s : Int) (ds : List Int) : Prop where
  cls : clsP s = 0
  sec : secB s = false
  pos : ∀ d ∈ ds, 0 < clsP d
  srt : ds.Pairwise (fun a b => clsP a ≤ clsP b)
  chn : chain s ds = some r
theorem row_down {x : R3} (hx : x ∈ allP) : dnP x.1 = valP x := rd_of_mem allP all_dist x hx
theorem skip_ex {x : R3} (hx : x ∈ allP) : skipB x = exq x.1 := by rw [← rex_skip x hx, rex_eq]
theorem fine_row : ∀ (n : Nat) (x : R3), x ∈ allP → skipB x = false → okF n x.1 = true → ∃ s ds, apF n x.1 = s :: ds ∧ Fine x.1 s ds ∧ ∀ d ∈ ds, clsP d ≤ clsP x.2.2
  | 0, _, _, _, h => by cases h
  | n + 1, x, hx, hs, hok => by
    have hck := List.all_eq_true.1 rows_ck x hx
    unfold ckR at hck
    rw [hs, Bool.false_or] at hck
    obtain ⟨p, q, m, hq⟩ : ∃ p q m, dnP x.2.1 = (p, q, m) := ⟨_, _, _, rfl⟩
    rw [hq] at hck
    simp only [Bool.and_eq_true, Bool.not_eq_true', beq_iff_eq, decide_eq_true_eq] at hck
    obtain ⟨⟨⟨⟨k1, k2⟩, k3⟩, k5⟩, ⟨k7, k8⟩, k6⟩ := hck
    have k4 : rexq allP x.2.1 = false := by
      have e : (rdP x.2.1 allP).2.2 = m := by
        have := congrArg (fun y : Pt => y.2.2) hq
        exact this
      unfold rexq
      rw [e, k7, k8]; rfl
    have hne : x.2.2 ≠ 0 := by
      unfold skipB at hs
      rw [Bool.or_eq_false_iff] at hs
      simpa using hs.1
    have hd : dnP x.1 = (x.2.1, x.2.2, 2) := by rw [row_down hx]; unfold valP; rw [if_neg hne]
    have hsy := syl_row x hx
    simp only [okF] at hok
    rw [if_neg (by rw [hsy]; decide), hd] at hok
    simp only [show ¬ (2 : Int) = 1 by decide, if_false, if_true, Bool.and_eq_true] at hok
    have hex : exq x.1 = false := by rw [← skip_ex hx]; exact hs
    have hu := bk1 x.1 (by rw [(dn_d x.1).2.2, hd]) hex
    rw [(dn_d x.1).1, (dn_d x.1).2.1, hd] at hu
    simp only at hu
    have hmk : mkB x.2.1 x.2.2 = true := by unfold mkB; rw [hu.2]; rfl
    have hmi : mkI x.2.1 x.2.2 = x.1 := by unfold mkI; rw [if_pos hu.2]; exact hu.1
    have hb : apF n x.2.2 = [x.2.2] := by
      cases n with
      | zero => cases hok.2
      | succ n =>
        simp only [apF]
        rw [if_neg (by rw [k2]; decide), if_neg (by omega), if_neg (by omega)]
    have he : apF (n + 1) x.1 = apF n x.2.1 ++ [x.2.2] := by
      simp only [apF]
      rw [if_neg (by rw [hsy]; decide), hd]
      simp only [show ¬ (2 : Int) = 1 by decide, if_false, if_true]
      rw [hb]
    have hq3 : (dnP x.2.1).2.2 = m := by rw [hq]
    by_cases h0 : m = 0
    · rw [if_pos h0] at k6
      simp only [Bool.and_eq_true, Bool.not_eq_true', beq_iff_eq] at k6
      obtain ⟨⟨⟨q1, q2⟩, q3⟩, q4⟩ := k6
      have ha : apF n x.2.1 = [x.2.1] := by
        cases n with
        | zero => cases hok.1
        | succ n =>
          simp only [apF]
          rw [if_neg (by rw [k5]; decide), if_neg (by omega), if_neg (by omega)]
      refine ⟨x.2.1, [x.2.2], by rw [he, ha]; rfl, ⟨q1, ?_, fun d hd => ?_, List.pairwise_singleton _ _, ?_⟩, fun d hd => ?_⟩
      · unfold secB
        have : s1 x.2.1 = false := by
          cases hh : s1 x.2.1 with
          | false => rfl
          | true =>
            obtain ⟨y, hy, e1, e2⟩ := (s1_row _).1 hh
            have := List.any_eq_false.1 q2 y hy
            simp [e1, e2] at this
        rw [this, q3, q4]; rfl
      · simp at hd; subst hd; exact k3
      · show chainF mkB mkI x.2.1 [x.2.2] = _
        have := chainF_snoc mkB mkI [] x.2.1 x.2.2 x.2.1 rfl hmk
        rw [hmi] at this
        exact this
      · simp at hd; subst hd; exact Int.le_refl _
    · rw [if_neg h0, decide_eq_true_eq] at k6
      have hin : ∃ y ∈ allP, y.1 = x.2.1 := by
        refine Classical.byContradiction fun hn => h0 ?_
        rw [← hq3, dn_out x.2.1 (fun y hy e => hn ⟨y, hy, e⟩)]
      obtain ⟨y, hy, ey⟩ := hin
      have hys : skipB y = false := by
        rw [skip_ex hy, ey, ← rex_eq]; exact k4
      obtain ⟨s, ds, f1, f2, f3⟩ := fine_row n y hy hys (by rw [ey]; exact hok.1)
      rw [ey] at f1 f2
      have hyne : y.2.2 ≠ 0 := by
        unfold skipB at hys
        rw [Bool.or_eq_false_iff] at hys
        simpa using hys.1
      have hyd : dnP x.2.1 = (y.2.1, y.2.2, 2) := by rw [← ey, row_down hy]; unfold valP; rw [if_neg hyne]
      have hqe : q = y.2.2 := by
        have := congrArg (fun y : Pt => y.2.1) (hq.symm.trans hyd)
        exact this
      rw [hqe] at k6
      refine ⟨s, ds ++ [x.2.2], by rw [he, f1]; rfl, ⟨f2.cls, f2.sec, fun d hd => ?_, ?_, ?_⟩, fun d hd => ?_⟩
      · rcases List.mem_append.1 hd with hd | hd
        · exact f2.pos d hd
        · simp at hd; subst hd; exact k3
      · refine List.pairwise_append.2 ⟨f2.srt, List.pairwise_singleton _ _, fun a ha b hb => ?_⟩
        simp at hb; subst hb
        have := f3 a ha
        omega
      · have := chainF_snoc mkB mkI ds s x.2.2 x.2.1 f2.chn hmk
        rw [hmi] at this
        exact this
      · rcases List.mem_append.1 hd with hd | hd
        · have := f3 d hd; omega
        · simp at hd; subst hd; exact Int.le_refl _

/-- Two rows of marks, merged. -/
def mrg : List Int → List Int → List Int
  | [], Ms => Ms
  | d :: ds, [] => d :: mrg ds []
  | d :: ds, m :: Ms => if clsP m < clsP d then m :: mrg (d :: ds) Ms else d :: mrg ds (m :: Ms)
theorem mrg_sw (ds Ms : List Int) (hp : ∀ m ∈ Ms, 0 < clsP m) (hs : ds.Pairwise (fun a b => clsP a ≤ clsP b)) : Sw clsP (ds ++ Ms) (mrg ds Ms) := by
  fun_induction mrg ds Ms with
  | case1 Ms => exact .refl _
  | case2 d ds ih =>
    rw [List.cons_append]
    exact (ih (by simp) (List.pairwise_cons.1 hs).2).cons d
  | case3 d ds m Ms hlt ih =>
    have h1 := sw_through clsP m (hp m (by simp)) (d :: ds) (fun x hx => by
      rcases List.mem_cons.1 hx with rfl | hx
      · exact hlt
      · have := (List.pairwise_cons.1 hs).1 x hx; omega)
    have h2 : Sw clsP (d :: ds ++ m :: Ms) (m :: (d :: ds ++ Ms)) := by
      have := h1.ctx [] Ms
      simpa using this
    exact h2.trans ((ih (fun x hx => hp x (by simp [hx])) hs).cons m)
  | case4 d ds m Ms hlt ih =>
    rw [List.cons_append]
    exact (ih hp (List.pairwise_cons.1 hs).2).cons d
theorem mrg_pw (ds Ms : List Int) (hp : ∀ m ∈ Ms, 0 < clsP m) (hs : ds.Pairwise (fun a b => clsP a ≤ clsP b)) (ht : Ms.Pairwise (fun a b => clsP a ≤ clsP b)) : (mrg ds Ms).Pairwise (fun a b => clsP a ≤ clsP b) := by
  fun_induction mrg ds Ms with
  | case1 Ms => exact ht
  | case2 d ds ih =>
    refine List.pairwise_cons.2 ⟨fun x hx => ?_, ih (by simp) (List.pairwise_cons.1 hs).2 ht⟩
    have hx' := (mrg_sw ds [] (by simp) (List.pairwise_cons.1 hs).2).perm.mem_iff.2 hx
    rw [List.append_nil] at hx'
    exact (List.pairwise_cons.1 hs).1 x hx'
  | case3 d ds m Ms hlt ih =>
    refine List.pairwise_cons.2 ⟨fun x hx => ?_, ih (fun x hx => hp x (by simp [hx])) hs (List.pairwise_cons.1 ht).2⟩
    have hx' := (mrg_sw (d :: ds) Ms (fun x hx => hp x (by simp [hx])) hs).perm.mem_iff.2 hx
    rcases List.mem_append.1 hx' with h | h
    · rcases List.mem_cons.1 h with rfl | h
      · omega
      · have := (List.pairwise_cons.1 hs).1 x h; omega
    · exact (List.pairwise_cons.1 ht).1 x h
  | case4 d ds m Ms hlt ih =>
    refine List.pairwise_cons.2 ⟨fun x hx => ?_, ih hp (List.pairwise_cons.1 hs).2 ht⟩
    have hx' := (mrg_sw ds (m :: Ms) hp (List.pairwise_cons.1 hs).2).perm.mem_iff.2 hx
    rcases List.mem_append.1 hx' with h | h
    · exact (List.pairwise_cons.1 hs).1 x h
    · rcases List.mem_cons.1 h with rfl | h
      · omega
      · have := (List.pairwise_cons.1 ht).1 x h; omega
theorem pw_ord : ∀ (l : List Int), l.Pairwise (fun a b => clsP a ≤ clsP b) → Od.Ord clsP l
  | [], _ => trivial
  | [_], _ => trivial
  | x :: y :: l, h => by
    have h1 := List.pairwise_cons.1 h
    refine ⟨?_, pw_ord (y :: l) h1.2⟩
    have := h1.1 y (by simp)
    omega
theorem mrg_srt (ds Ms : List Int) (hp : ∀ m ∈ Ms, 0 < clsP m) (hs : ds.Pairwise (fun a b => clsP a ≤ clsP b)) (ht : Ms.Pairwise (fun a b => clsP a ≤ clsP b)) : mrg ds Ms = Od.srt clsP (ds ++ Ms) :=
  (mrg_sw ds Ms hp hs).fin (pw_ord _ (mrg_pw ds Ms hp hs ht))
theorem try_nosec {s : CS} {r : Int} (h : secB r = false) : tryC clsP s r = false := by
  cases ht : tryC clsP s r with
  | false => rfl
  | true =>
    obtain ⟨x, _, hm⟩ := try_some ht
    rw [mk_sec hm] at h; cases h
theorem step_nosec {A M : List Int} {o : Option Int} {m : Int} (h : secB m = false) (hc : 0 < clsP m) : stepC clsP (A, o, M) m = (A, o, M ++ [m]) := by
  unfold stepC
  rw [if_neg (by rw [try_nosec h]; decide), if_neg (by omega)]
theorem gr_small (M : List Int) (d : Int) (h : ∀ m ∈ M, clsP m < clsP d) : gr clsP M = 0 ∨ gr clsP M < clsP d := by
  rcases gr_at M 0 with e | ⟨m, hm, e⟩
  · exact .inl e
  · right
    have := h m hm
    unfold gr
    omega
theorem marks_fold : ∀ (Ms A M0 : List Int) (o : Option Int), (∀ m ∈ Ms, 0 < clsP m ∧ secB m = false) → Ms.foldl (stepC clsP) (A, o, M0) = (A, o, M0 ++ Ms)
  | [], A, M0, o, _ => by simp
  | m :: Ms, A, M0, o, h => by
    rw [List.foldl_cons, step_nosec (h m (by simp)).2 (h m (by simp)).1, marks_fold Ms A (M0 ++ [m]) o (fun y hy => h y (by simp [hy]))]
    simp
/-- A run is put together again. -/
theorem run_fold (ds Ms : List Int) : ∀ (A M0 : List Int) (x z : Int), ds.Pairwise (fun a b => clsP a ≤ clsP b) → (∀ m ∈ Ms, 0 < clsP m ∧ secB m = false) → chain x ds = some z → (∀ d ∈ ds, ∀ m ∈ M0, clsP m < clsP d) → (mrg ds Ms).foldl (stepC clsP) (A, some x, M0) = (A, some z, M0 ++ Ms) := by
  fun_induction mrg ds Ms with
  | case1 Ms =>
    intro A M0 x z _ hM hch _
    have hch := chainF_nil hch
    subst hch
    exact marks_fold Ms A M0 (some x) hM
  | case2 d ds ih =>
    intro A M0 x z hs hM hch hlt
    obtain ⟨hmk, hch⟩ := chainF_cons hch
    · have ht : tryC clsP (A, some x, M0) d = true := by
        unfold tryC
        simp only [Bool.and_eq_true, Bool.not_eq_true', Bool.and_eq_false_iff, decide_eq_false_iff_not]
        refine ⟨?_, hmk⟩
        rcases gr_small M0 d (hlt d (by simp)) with e | e
        · exact .inl (by omega)
        · exact .inr (by omega)
      rw [List.foldl_cons, step_join ht]
      exact ih A M0 _ z (List.pairwise_cons.1 hs).2 hM hch (fun y hy => hlt y (by simp [hy]))
  | case3 d ds m Ms hlt' ih =>
    intro A M0 x z hs hM hch hlt
    rw [List.foldl_cons, step_nosec (hM m (by simp)).2 (hM m (by simp)).1, ih A (M0 ++ [m]) x z hs (fun y hy => hM y (by simp [hy])) hch ?_]
    · simp
    · intro y hy q hq
      rcases List.mem_append.1 hq with hq | hq
      · exact hlt y hy q hq
      · simp at hq; subst hq
        rcases List.mem_cons.1 hy with rfl | hy
        · exact hlt'
        · have := (List.pairwise_cons.1 hs).1 y hy; omega
  | case4 d ds m Ms hlt' ih =>
    intro A M0 x z hs hM hch hlt
    obtain ⟨hmk, hch⟩ := chainF_cons hch
    · have ht : tryC clsP (A, some x, M0) d = true := by
        unfold tryC
        simp only [Bool.and_eq_true, Bool.not_eq_true', Bool.and_eq_false_iff, decide_eq_false_iff_not]
        refine ⟨?_, hmk⟩
        rcases gr_small M0 d (hlt d (by simp)) with e | e
        · exact .inl (by omega)
        · exact .inr (by omega)
      rw [List.foldl_cons, step_join ht]
      exact ih A M0 _ z (List.pairwise_cons.1 hs).2 hM hch (fun y hy => hlt y (by simp [hy]))
end Nf
end Go.Proofs.YtclcmkklonnalaaGreat

namespace Go.Proofs.YtclcmkklonnalaaGreat
namespace Nf
open Go.RowKit Od Pr Ha

theorem ins_zero (z : Int) (hz : clsP z = 0) (V : List Int) (x : Int) : ∀ (W : List Int), ins clsP x (W ++ z :: V) = ins clsP x W ++ z :: V
  | [] => by
    show (if 0 < clsP z ∧ clsP z < clsP x then _ else _) = _
    rw [if_neg (by omega)]; rfl
  | y :: W => by
    show (if 0 < clsP y ∧ clsP y < clsP x then y :: ins clsP x (W ++ z :: V) else _) = _
    rw [ins_zero z hz V x W]
    show _ = (if 0 < clsP y ∧ clsP y < clsP x then y :: ins clsP x W else x :: y :: W) ++ z :: V
    split <;> rfl
theorem srt_zero (z : Int) (hz : clsP z = 0) (Y : List Int) : srt clsP (z :: Y) = z :: srt clsP Y := by
  show ins clsP z (srt clsP Y) = _
  cases srt clsP Y with
  | nil => rfl
  | cons y l =>
    show (if 0 < clsP y ∧ clsP y < clsP z then _ else _) = _
    rw [if_neg (by omega)]
theorem srt_split (z : Int) (hz : clsP z = 0) (Y : List Int) : ∀ (X : List Int), srt clsP (X ++ z :: Y) = srt clsP X ++ z :: srt clsP Y
  | [] => srt_zero z hz Y
  | x :: X => by
    show ins clsP x (srt clsP (X ++ z :: Y)) = ins clsP x (srt clsP X) ++ _
    rw [srt_split z hz Y X, ins_zero z hz]
theorem ord_tail2 : ∀ (A B : List Int), Od.Ord clsP (A ++ B) → Od.Ord clsP B
  | [], _, h => h
  | _ :: A, B, h => ord_tail2 A B h.tail
theorem ord_head2 : ∀ (A B : List Int), Od.Ord clsP (A ++ B) → Od.Ord clsP A
  | [], _, _ => trivial
  | [_], _, _ => trivial
  | _ :: y :: A, B, h => ⟨h.1, ord_head2 (y :: A) B h.2⟩
theorem ord_pw : ∀ (l : List Int), (∀ m ∈ l, 0 < clsP m) → Od.Ord clsP l → l.Pairwise (fun a b => clsP a ≤ clsP b)
  | [], _, _ => List.Pairwise.nil
  | [_], _, _ => List.pairwise_singleton _ _
  | x :: y :: l, hp, h => by
    have ih := ord_pw (y :: l) (fun m hm => hp m (by simp [hm])) h.2
    have hy := hp y (by simp)
    have hxy : clsP x ≤ clsP y := by have := h.1; omega
    refine List.pairwise_cons.2 ⟨fun z hz => ?_, ih⟩
    rcases List.mem_cons.1 hz with rfl | hz
    · exact hxy
    · have := (List.pairwise_cons.1 ih).1 z hz; omega

theorem rows_jam : Uc.allT.all (fun x => x.2.2.2.2.2.1 == 0 || decide (x.2.1 < 4352) || decide (4546 < x.1)) = true := by kernel_rfl
theorem findL_jam (r : Int) (h1 : 4352 ≤ r) (h2 : r ≤ 4546) : ∀ (L : List Uc.Ln), L.all (fun x => x.2.2.2.2.2.1 == 0 || decide (x.2.1 < 4352) || decide (4546 < x.1)) = true → (Uc.findL r L).2.2.2.2.2.1 = 0
  | [], _ => rfl
  | x :: L, h => by
    rw [List.all_cons, Bool.and_eq_true] at h
    unfold Uc.findL
    split
    · rename_i hh
      have := h.1
      simp only [Bool.or_eq_true, beq_iff_eq, decide_eq_true_eq] at this
      omega
    · exact findL_jam r h1 h2 L h.2
theorem cls_jam {r : Int} (h1 : 4352 ≤ r) (h2 : r ≤ 4546) : clsP r = 0 := by
  rw [cls_row, Uc.rrow_find]
  exact findL_jam r h1 h2 _ rows_jam
set_option maxRecDepth 1000000 in
theorem rows_led : allP.all (fun y => skipB y || !(decide (4352 ≤ y.2.2) && decide (y.2.2 ≤ 4370))) = true := by kernel_rfl
theorem sec_led {r : Int} (h1 : 4352 ≤ r) (h2 : r ≤ 4370) : secB r = false := by
  unfold secB
  have e1 : s1 r = false := by
    cases hh : s1 r with
    | false => rfl
    | true =>
      obtain ⟨y, hy, q1, q2⟩ := (s1_row _).1 hh
      have := List.all_eq_true.1 rows_led y hy
      simp only [q1, Bool.false_or, Bool.not_eq_true', Bool.and_eq_false_iff, decide_eq_false_iff_not] at this
      omega
  have e2 : witB r 4449 21 = false := decide_eq_false (by omega)
  have e3 : witB r 4520 27 = false := decide_eq_false (by omega)
  rw [e1, e2, e3]; rfl

/-- What is its own form at a look. -/
def YesL (l : List Int) : Prop := Od.Ord clsP l ∧ ∀ r ∈ l, exq r = false ∧ secB r = false
theorem in_row {r : Int} (he : exq r = false) {x : R3} (hx : x ∈ allP) (e : x.1 = r) : skipB x = false := by rw [skip_ex hx, e]; exact he
theorem mark_ap {r : Int} (he : exq r = false) (hc : clsP r ≠ 0) : apP r = [r] := by
  refine ap_plain r ?_ (fun x hx e => hc ?_)
  · cases hs : sylB r with
    | false => rfl
    | true => exact absurd (cls_syl hs) hc
  · have h1 := in_row he hx e
    have := List.all_eq_true.1 rows_up x hx
    simp only [h1, Bool.false_or, Bool.and_eq_true, beq_iff_eq] at this
    rw [← e]; exact this.1.1
theorem start_ap {r : Int} (he : exq r = false) (hn : secB r = false) (hc : clsP r = 0) (hs : sylB r = false) : ∃ s ds, apP r = s :: ds ∧ Fine r s ds := by
  by_cases h : ∃ x ∈ allP, x.1 = r
  · obtain ⟨x, hx, rfl⟩ := h
    obtain ⟨s, ds, h1, h2, _⟩ := fine_row 5 x hx (in_row he hx rfl) (ok5 x.1)
    exact ⟨s, ds, by rw [← ap5]; exact h1, h2⟩
  · exact ⟨r, [], ap_plain r hs (fun x hx e => h ⟨x, hx, e⟩), hc, hn, by simp, List.Pairwise.nil, rfl⟩
theorem marks_ap : ∀ (M : List Int), (∀ m ∈ M, exq m = false ∧ clsP m ≠ 0) → M.flatMap apP = M
  | [], _ => rfl
  | m :: M, h => by
    rw [List.flatMap_cons, mark_ap (h m (by simp)).1 (h m (by simp)).2, marks_ap M (fun y hy => h y (by simp [hy]))]
    rfl
/-- What a starter falls apart into begins with a starter. -/
theorem head_ap {r : Int} (he : exq r = false) (hn : secB r = false) (hc : clsP r = 0) : ∃ s ds, apP r = s :: ds ∧ clsP s = 0 := by
  cases hs : sylB r with
  | true =>
    have hl := led_bd r (syl_bd hs)
    rw [ap_eq, if_pos hs]
    unfold sylL
    split
    · exact ⟨_, _, rfl, cls_jam (by omega) (by omega)⟩
    · exact ⟨_, _, rfl, cls_jam (by omega) (by omega)⟩
  | false =>
    obtain ⟨s, ds, h1, h2⟩ := start_ap he hn hc hs
    exact ⟨s, ds, h1, h2.cls⟩
def Heads (l : List Int) : Prop := l = [] ∨ ∃ r t, l = r :: t ∧ clsP r = 0
theorem srt_heads {t : List Int} (h : Heads t) (hy : ∀ r ∈ t, exq r = false ∧ secB r = false) (X : List Int) : srt clsP (X ++ t.flatMap apP) = srt clsP X ++ srt clsP (t.flatMap apP) := by
  rcases h with rfl | ⟨r, t, rfl, hc⟩
  · simp [srt]
  · obtain ⟨s, ds, e, hs⟩ := head_ap (hy r (by simp)).1 (hy r (by simp)).2 hc
    rw [List.flatMap_cons, e, List.cons_append, srt_split s hs, srt_zero s hs]
theorem step_start {S : CS} {s : Int} (h : secB s = false) (hc : clsP s = 0) : stepC clsP S s = (outC S, some s, []) := by
  unfold stepC
  rw [if_neg (by rw [try_nosec h]; decide), if_pos hc]
theorem heads_drop : ∀ (t : List Int), Heads (t.dropWhile (fun y => clsP y != 0))
  | [] => .inl rfl
  | y :: t => by
    by_cases h : clsP y = 0
    · rw [List.dropWhile_cons_of_neg (by simpa using h)]
      exact .inr ⟨y, t, rfl, h⟩
    · rw [List.dropWhile_cons_of_pos (by simpa using h)]
      exact heads_drop t
theorem take_marks : ∀ (t : List Int), ∀ m ∈ t.takeWhile (fun y => clsP y != 0), clsP m ≠ 0
  | [], m, h => by simp at h
  | y :: t, m, h => by
    by_cases hy : clsP y = 0
    · rw [List.takeWhile_cons_of_neg (by simpa using hy)] at h
      simp at h
    · rw [List.takeWhile_cons_of_pos (by simpa using hy)] at h
      rcases List.mem_cons.1 h with rfl | h
      · exact hy
      · exact take_marks t m h
theorem pos_of {m : Int} (h : clsP m ≠ 0) : 0 < clsP m := by have := (cls_bd m).1; omega
theorem mrg_nil (Ms : List Int) : mrg [] Ms = Ms := by rw [mrg]

/-- A syllable is put together again. -/
theorem syl_fold {r : Int} (h : sylB r = true) (S : CS) : (sylL r).foldl (stepC clsP) S = (outC S, some r, []) := by
  have hb := syl_bd h
  have hl := led_bd r hb
  have hv := vow_bd r
  have e1 : lvB (ledI r) (vowI r) = true := by
    unfold lvB witB
    rw [decide_eq_true (by omega), decide_eq_true (by omega)]; rfl
  have u0 : u2 (ledI r) (vowI r) = false := by
    cases hu : u2 (ledI r) (vowI r) with
    | false => rfl
    | true =>
      have := (up_row hu).2.1
      unfold witB at this
      rw [decide_eq_true (by omega)] at this; cases this
  have m1 : mkB (ledI r) (vowI r) = true := by unfold mkB; rw [e1]; simp
  have m2 : mkI (ledI r) (vowI r) = lvI (ledI r) (vowI r) := by unfold mkI; rw [u0, if_neg (by decide), if_pos e1]
  have st1 : stepC clsP S (ledI r) = (outC S, some (ledI r), []) := step_start (sec_led hl.1 hl.2) (cls_jam (by omega) (by omega))
  have t1 : tryC clsP (outC S, some (ledI r), []) (vowI r) = true := by
    unfold tryC
    simp only [m1, Bool.and_true]
    rfl
  have st2 := step_join t1
  rw [m2] at st2
  unfold sylL
  split
  · rename_i h0
    have e : lvI (ledI r) (vowI r) = r := by
      unfold talI at h0
      split at h0
      · omega
      · unfold lvI ledI vowI; omega
    simp only [List.foldl_cons, List.foldl_nil]
    rw [st1, st2, e]
  · rename_i h0
    obtain ⟨p1, p2⟩ := lv_parts _ _ e1
    have ht : 0 < (r - 44032) % 28 := by
      unfold talI at h0
      split at h0
      · assumption
      · exact absurd rfl h0
    have e3 : talI r = 4519 + (r - 44032) % 28 := by unfold talI; rw [if_pos ht]
    have o1 : otB (lvI (ledI r) (vowI r)) (talI r) = true := by
      unfold otB opnB
      rw [p1, e3]
      unfold witB lvI
      rw [decide_eq_true (by omega), decide_eq_true (by omega)]; rfl
    have u3 : u2 (lvI (ledI r) (vowI r)) (talI r) = false := by
      cases hu : u2 (lvI (ledI r) (vowI r)) (talI r) with
      | false => rfl
      | true => have := (up_row hu).2.2; rw [p1] at this; cases this
    have l3 : lvB (lvI (ledI r) (vowI r)) (talI r) = false := by
      have := syl_bd p1
      unfold lvB witB
      rw [decide_eq_false (by omega)]; rfl
    have m3 : mkB (lvI (ledI r) (vowI r)) (talI r) = true := by unfold mkB; rw [o1]; simp
    have m4 : mkI (lvI (ledI r) (vowI r)) (talI r) = r := by
      unfold mkI
      rw [u3, if_neg (by decide), l3, if_neg (by decide), e3]
      unfold otI lvI ledI vowI
      omega
    have t2 : tryC clsP (outC S, some (lvI (ledI r) (vowI r)), []) (talI r) = true := by
      unfold tryC
      simp only [m3, Bool.and_true]
      rfl
    have st3 := step_join t2
    rw [m4] at st3
    simp only [List.foldl_cons, List.foldl_nil]
    rw [st1, st2, st3]
theorem tail_fold : ∀ (n : Nat) (l : List Int), l.length ≤ n → YesL l → Heads l → ∀ S : CS, outC ((srt clsP (l.flatMap apP)).foldl (stepC clsP) S) = outC S ++ l
  | n, [], _, _, _, S => by simp [srt]
  | 0, _ :: _, h, _, _, _ => by simp at h
  | n + 1, r :: t, hn, hy, hh, S => by
    have hc : clsP r = 0 := by
      rcases hh with h | ⟨_, _, e, h⟩
      · cases h
      · cases e; exact h
    have hsp := List.takeWhile_append_dropWhile (p := fun y => clsP y != 0) (l := t)
    have hM := take_marks t
    have hH := heads_drop t
    generalize t.takeWhile (fun y => clsP y != 0) = Ms at *
    generalize t.dropWhile (fun y => clsP y != 0) = t2 at *
    subst hsp
    have hyr := hy.2 r (by simp)
    have hyM : ∀ m ∈ Ms, exq m = false ∧ secB m = false := fun m hm => hy.2 m (by simp [hm])
    have hyt : ∀ m ∈ t2, exq m = false ∧ secB m = false := fun m hm => hy.2 m (by simp [hm])
    have hpM : ∀ m ∈ Ms, 0 < clsP m := fun m hm => pos_of (hM m hm)
    have ho2 : Od.Ord clsP (Ms ++ t2) := hy.1.tail
    have hpw := ord_pw Ms hpM (ord_head2 Ms t2 ho2)
    have hot := ord_tail2 Ms t2 ho2
    have ih := fun S => tail_fold n t2 (by simp at hn; omega) ⟨hot, hyt⟩ hH S
    have hfl : (r :: (Ms ++ t2)).flatMap apP = apP r ++ (Ms ++ t2.flatMap apP) := by
      rw [List.flatMap_cons, List.flatMap_append, marks_ap Ms (fun m hm => ⟨(hyM m hm).1, hM m hm⟩)]
    rw [hfl]
    cases hs : sylB r with
    | true =>
      have e1 : srt clsP (apP r ++ (Ms ++ t2.flatMap apP)) = sylL r ++ (Ms ++ srt clsP (t2.flatMap apP)) := by
        have e2 : srt clsP (Ms ++ t2.flatMap apP) = Ms ++ srt clsP (t2.flatMap apP) := by
          rw [srt_heads hH hyt, (pw_ord Ms hpw).srt_eq]
        rw [ap_eq, if_pos hs, ← e2]
        have hbd := sylL_bd hs
        generalize sylL r = L at *
        induction L with
        | nil => rfl
        | cons y L ihL =>
          have hy' := hbd y (by simp)
          rw [List.cons_append, srt_zero y (cls_jam hy'.1 hy'.2), ihL (fun z hz => hbd z (by simp [hz]))]
          rfl
      rw [e1, List.foldl_append, syl_fold hs S, List.foldl_append]
      have := run_fold [] Ms (outC S) [] r r List.Pairwise.nil (fun m hm => ⟨hpM m hm, (hyM m hm).2⟩) rfl (by simp)
      rw [mrg_nil] at this
      rw [this, ih]
      simp [outC]
    | false =>
      obtain ⟨s, ds, e, hf⟩ := start_ap hyr.1 hyr.2 hc hs
      have e1 : srt clsP (apP r ++ (Ms ++ t2.flatMap apP)) = s :: (mrg ds Ms ++ srt clsP (t2.flatMap apP)) := by
        rw [e, List.cons_append, srt_zero s hf.cls, ← List.append_assoc, srt_heads hH hyt, mrg_srt ds Ms hpM hf.srt hpw]
      rw [e1, List.foldl_cons, step_start hf.sec hf.cls, List.foldl_append, run_fold ds Ms (outC S) [] s r hf.srt (fun m hm => ⟨hpM m hm, (hyM m hm).2⟩) hf.chn (by simp), ih]
      simp [outC]
/-- What is Yes is its own form. -/
theorem quick_yes (l : List Int) (h : quickP l = 1) : nfcP clsP l = l := by
  unfold quickP at h
  split at h
  · rename_i hs
    split at h
    · omega
    · rename_i he
      split at h
      · omega
      · rename_i hsec
        have ho : Od.Ord clsP l := (ord_iff clsP l).2 hs
        have hy : ∀ r ∈ l, exq r = false ∧ secB r = false := fun r hr =>
          ⟨by
            cases hh : exq r with
            | false => rfl
            | true => exact absurd (List.any_eq_true.2 ⟨r, hr, hh⟩) he,
           by
            cases hh : secB r with
            | false => rfl
            | true => exact absurd (List.any_eq_true.2 ⟨r, hr, hh⟩) hsec⟩
        have hsp := List.takeWhile_append_dropWhile (p := fun y => clsP y != 0) (l := l)
        have hM := take_marks l
        have hH := heads_drop l
        generalize l.takeWhile (fun y => clsP y != 0) = Ms at *
        generalize l.dropWhile (fun y => clsP y != 0) = t2 at *
        subst hsp
        have hyM : ∀ m ∈ Ms, exq m = false ∧ secB m = false := fun m hm => hy m (by simp [hm])
        have hyt : ∀ m ∈ t2, exq m = false ∧ secB m = false := fun m hm => hy m (by simp [hm])
        have hpM : ∀ m ∈ Ms, 0 < clsP m := fun m hm => pos_of (hM m hm)
        have hpw := ord_pw Ms hpM (ord_head2 Ms t2 ho)
        have hot := ord_tail2 Ms t2 ho
        unfold nfcP nfdP compP
        rw [List.flatMap_append, marks_ap Ms (fun m hm => ⟨(hyM m hm).1, hM m hm⟩), srt_heads hH hyt, (pw_ord Ms hpw).srt_eq, List.foldl_append, marks_fold Ms [] [] none (fun m hm => ⟨hpM m hm, (hyM m hm).2⟩), tail_fold t2.length t2 (Nat.le_refl _) ⟨hot, hyt⟩ hH]
        simp [outC]
  · omega
end Nf
end Go.Proofs.YtclcmkklonnalaaGreat

namespace Go.Proofs.YtclcmkklonnalaaGreat
namespace Nf
open Go.RowKit Od Pr Ha

/-- A function that asks something of a rune, with some arguments bound ahead. -/
structure Prd (p : Int → Bool) (G : World → Prop) (g : Nat) (pa : Array Value) : Prop where
  call : ∀ W x, I32 x → G W → Calls Tryz.prog g (pa ++ #[.int .i32 x]) W fun e w' => e = .returned (.bool (p x)) ∧ Below W.heap.size W w'
  keep : ∀ W W', G W → Below W.heap.size W W' → G W'
/-- The first of some; -1. -/
def idxQ (p : Int → Bool) : Nat → List Int → Int
  | _, [] => -1
  | k, x :: l => if p x = true then k else idxQ p (k + 1) l
theorem idxQ_iff (p : Int → Bool) : ∀ (l : List Int) (k : Nat), (0 ≤ idxQ p k l) ↔ l.any p = true
  | [], _ => by simp [idxQ]
  | x :: l, k => by
    simp only [idxQ, List.any_cons]
    by_cases h : p x = true
    · rw [if_pos h, h]; simp
    · rw [if_neg h, idxQ_iff p l (k + 1)]
      simp at h
      simp [h]

set_option maxRecDepth 100000 in
set_option maxHeartbeats 2000000 in
theorem idxE_any {G : World → Prop} {p : Int → Bool} {q : Value} (w : World) (ao : Option Addr) (n cap : Nat) (hC : Prd p G 23 #[q]) (X : List Int) (hX : X.length = n) (hI : ∀ x ∈ X, I32 x) (hS : SlP .i32 w ao cap X) (hG : G w) (hn : n ≤ 1000000) :
    Calls Tryz.prog 48 #[.slice ao n cap, .func (.func 23) #[q] #[]] w fun e w' => e = .returned (.int .i64 (idxQ p 0 X)) ∧ Below w.heap.size w w' := by
  have HC := hid hC
  have HX := hid hX
  have HI := hid hI
  have HS := hid hS
  have H0 : Hid (G w ∧ Ok w.heap.size w w) := ⟨hG, Ok.start w⟩
  clear hC hX hS hG hI
  go_enter Tryz.func48, Tryz.ntmps48
  go_wp2_with fail
  go_loopg [8] n (fun gg vi wr => ∃ k : Nat, vi = .int .i64 k ∧ k ≤ n ∧ gg = n - k ∧ Hid (idxQ p 0 X = idxQ p k (X.drop k) ∧ G wr ∧ Ok w.heap.size w wr))
  case atStart => exact ⟨0, rfl, Nat.zero_le _, rfl, rfl, H0.out⟩
  case round =>
    obtain ⟨k, rfl, hk, hg, H⟩ := hrel
    have HG := hid hg
    clear hg H0
    by_cases hlt : k < n
    · have hlx : k < X.length := by have := HX.out; omega
      obtain ⟨b, off, rfl, hb, c1⟩ := HS.out.at_ k hlx
      have d1 := (H.out.2.2.1.cell (p := ⟨b, off + k, none⟩) hb).trans c1
      have HE : Hid (idxQ p 0 X = if p X[k] = true then (k : Int) else idxQ p (k + 1) (X.drop (k + 1))) := by
        show _ = _
        rw [H.out.1, List.drop_eq_getElem_cons hlx]; rfl
      have HV : Hid (Calls Tryz.prog 23 #[q, .int .i32 X[k]] wr fun e w' => e = .returned (.bool (p X[k])) ∧ Below wr.heap.size wr w') := HC.out.call wr X[k] (HI.out _ (List.getElem_mem hlx)) H.out.2.1
      clear c1
      generalize X[k] = x at *
      have z1 : (k : Int) < (n : Int) := by omega
      by_cases hp : p x = true
      · have HR : Hid (idxQ p 0 X = (k : Int)) := by show _ = _; rw [HE.out, if_pos hp]
        rw [hp] at HV
        clear hp HE
        go_wp2_with fail
        refine HV.out.mono ?_
        rintro e w' ⟨rfl, hb'⟩
        have hok := hid (H.out.2.2.step hb')
        clear hb'
        go_wp2_with fail
        go_ret
        exact ⟨ret_int HR.out.symm, hok.out.1⟩
      · have HR : Hid (idxQ p 0 X = idxQ p (k + 1) (X.drop (k + 1))) := by show _ = _; rw [HE.out, if_neg hp]
        have hp2 : p x = false := by simpa using hp
        rw [hp2] at HV
        clear hp hp2 HE
        go_wp2_with fail
        refine HV.out.mono ?_
        rintro e w' ⟨rfl, hb'⟩
        have HN : Hid (G w' ∧ Ok w.heap.size w w') := ⟨HC.out.keep _ _ H.out.2.1 hb', H.out.2.2.step hb'⟩
        clear hb'
        go_wp2_with fail
        go_roundg (n - (k + 1))
        case measure => rw [HG.out]; omega
        case rel => exact ⟨k + 1, by go_num, by omega, rfl, HR.out, HN.out⟩
    · have e : X.drop k = [] := List.drop_eq_nil_of_le (by have := HX.out; omega)
      have HR : Hid (idxQ p 0 X = -1) := by show _ = _; rw [H.out.1, e]; rfl
      go_wp2_with fail
      go_ret
      exact ⟨ret_int HR.out.symm, H.out.2.2.1⟩

set_option maxHeartbeats 1000000 in
theorem contE_any {G : World → Prop} {p : Int → Bool} {q : Value} (w : World) (v : Value) (hC : Prd p G 23 #[q]) (X : List Int) (hI : ∀ x ∈ X, I32 x) (hS : Sl .i32 w v X) (hG : G w) (hn : X.length ≤ 1000000) :
    Calls Tryz.prog 22 #[v, .func (.func 23) #[q] #[]] w fun e w' => e = .returned (.bool (X.any p)) ∧ Below w.heap.size w w' := by
  obtain ⟨ao, cap, rfl, hS⟩ := hS
  have HI := hid (idxE_any w ao X.length cap hC X rfl hI hS hG hn)
  have HE : Hid (X.any p = decide (0 ≤ idxQ p 0 X)) := by
    show _ = _
    rw [Bool.eq_iff_iff, decide_eq_true_eq]
    exact (idxQ_iff p X 0).symm
  clear hC hS hG hI
  generalize idxQ p 0 X = v at *
  generalize X.length = n at *
  go_enter Tryz.func22, Tryz.ntmps22
  go_wp2_with fail
  refine HI.out.mono ?_
  rintro e w' ⟨rfl, hb⟩
  go_wp2_with fail
  go_ret
  refine ⟨ret_bool ?_, hb⟩
  rw [HE.out]
  try rfl

set_option maxRecDepth 100000 in
set_option maxHeartbeats 2000000 in
theorem idxS_any {G : World → Prop} {p : Int → Bool} {q : Value} (w : World) (ao : Option Addr) (n cap : Nat) (hC : Prd p G 24 #[q]) (X : List Int) (hX : X.length = n) (hI : ∀ x ∈ X, I32 x) (hS : SlP .i32 w ao cap X) (hG : G w) (hn : n ≤ 1000000) :
    Calls Tryz.prog 48 #[.slice ao n cap, .func (.func 24) #[q] #[]] w fun e w' => e = .returned (.int .i64 (idxQ p 0 X)) ∧ Below w.heap.size w w' := by
  have HC := hid hC
  have HX := hid hX
  have HI := hid hI
  have HS := hid hS
  have H0 : Hid (G w ∧ Ok w.heap.size w w) := ⟨hG, Ok.start w⟩
  clear hC hX hS hG hI
  go_enter Tryz.func48, Tryz.ntmps48
  go_wp2_with fail
  go_loopg [8] n (fun gg vi wr => ∃ k : Nat, vi = .int .i64 k ∧ k ≤ n ∧ gg = n - k ∧ Hid (idxQ p 0 X = idxQ p k (X.drop k) ∧ G wr ∧ Ok w.heap.size w wr))
  case atStart => exact ⟨0, rfl, Nat.zero_le _, rfl, rfl, H0.out⟩
  case round =>
    obtain ⟨k, rfl, hk, hg, H⟩ := hrel
    have HG := hid hg
    clear hg H0
    by_cases hlt : k < n
    · have hlx : k < X.length := by have := HX.out; omega
      obtain ⟨b, off, rfl, hb, c1⟩ := HS.out.at_ k hlx
      have d1 := (H.out.2.2.1.cell (p := ⟨b, off + k, none⟩) hb).trans c1
      have HE : Hid (idxQ p 0 X = if p X[k] = true then (k : Int) else idxQ p (k + 1) (X.drop (k + 1))) := by
        show _ = _
        rw [H.out.1, List.drop_eq_getElem_cons hlx]; rfl
      have HV : Hid (Calls Tryz.prog 24 #[q, .int .i32 X[k]] wr fun e w' => e = .returned (.bool (p X[k])) ∧ Below wr.heap.size wr w') := HC.out.call wr X[k] (HI.out _ (List.getElem_mem hlx)) H.out.2.1
      clear c1
      generalize X[k] = x at *
      have z1 : (k : Int) < (n : Int) := by omega
      by_cases hp : p x = true
      · have HR : Hid (idxQ p 0 X = (k : Int)) := by show _ = _; rw [HE.out, if_pos hp]
        rw [hp] at HV
        clear hp HE
        go_wp2_with fail
        refine HV.out.mono ?_
        rintro e w' ⟨rfl, hb'⟩
        have hok := hid (H.out.2.2.step hb')
        clear hb'
        go_wp2_with fail
        go_ret
        exact ⟨ret_int HR.out.symm, hok.out.1⟩
      · have HR : Hid (idxQ p 0 X = idxQ p (k + 1) (X.drop (k + 1))) := by show _ = _; rw [HE.out, if_neg hp]
        have hp2 : p x = false := by simpa using hp
        rw [hp2] at HV
        clear hp hp2 HE
        go_wp2_with fail
        refine HV.out.mono ?_
        rintro e w' ⟨rfl, hb'⟩
        have HN : Hid (G w' ∧ Ok w.heap.size w w') := ⟨HC.out.keep _ _ H.out.2.1 hb', H.out.2.2.step hb'⟩
        clear hb'
        go_wp2_with fail
        go_roundg (n - (k + 1))
        case measure => rw [HG.out]; omega
        case rel => exact ⟨k + 1, by go_num, by omega, rfl, HR.out, HN.out⟩
    · have e : X.drop k = [] := List.drop_eq_nil_of_le (by have := HX.out; omega)
      have HR : Hid (idxQ p 0 X = -1) := by show _ = _; rw [H.out.1, e]; rfl
      go_wp2_with fail
      go_ret
      exact ⟨ret_int HR.out.symm, H.out.2.2.1⟩

set_option maxHeartbeats 1000000 in
theorem contS_any {G : World → Prop} {p : Int → Bool} {q : Value} (w : World) (v : Value) (hC : Prd p G 24 #[q]) (X : List Int) (hI : ∀ x ∈ X, I32 x) (hS : Sl .i32 w v X) (hG : G w) (hn : X.length ≤ 1000000) :
    Calls Tryz.prog 22 #[v, .func (.func 24) #[q] #[]] w fun e w' => e = .returned (.bool (X.any p)) ∧ Below w.heap.size w w' := by
  obtain ⟨ao, cap, rfl, hS⟩ := hS
  have HI := hid (idxS_any w ao X.length cap hC X rfl hI hS hG hn)
  have HE : Hid (X.any p = decide (0 ≤ idxQ p 0 X)) := by
    show _ = _
    rw [Bool.eq_iff_iff, decide_eq_true_eq]
    exact (idxQ_iff p X 0).symm
  clear hC hS hG hI
  generalize idxQ p 0 X = v at *
  generalize X.length = n at *
  go_enter Tryz.func22, Tryz.ntmps22
  go_wp2_with fail
  refine HI.out.mono ?_
  rintro e w' ⟨rfl, hb⟩
  go_wp2_with fail
  go_ret
  refine ⟨ret_bool ?_, hb⟩
  rw [HE.out]
  try rfl

set_option maxRecDepth 100000 in
set_option maxHeartbeats 2000000 in
theorem idxV_any {G : World → Prop} {p : Int → Bool} (w : World) (ao : Option Addr) (n cap : Nat) (hC : Prd p G 25 #[]) (X : List Int) (hX : X.length = n) (hI : ∀ x ∈ X, I32 x) (hS : SlP .i32 w ao cap X) (hG : G w) (hn : n ≤ 1000000) :
    Calls Tryz.prog 48 #[.slice ao n cap, .func (.func 25) #[] #[]] w fun e w' => e = .returned (.int .i64 (idxQ p 0 X)) ∧ Below w.heap.size w w' := by
  have HC := hid hC
  have HX := hid hX
  have HI := hid hI
  have HS := hid hS
  have H0 : Hid (G w ∧ Ok w.heap.size w w) := ⟨hG, Ok.start w⟩
  clear hC hX hS hG hI
  go_enter Tryz.func48, Tryz.ntmps48
  go_wp2_with fail
  go_loopg [8] n (fun gg vi wr => ∃ k : Nat, vi = .int .i64 k ∧ k ≤ n ∧ gg = n - k ∧ Hid (idxQ p 0 X = idxQ p k (X.drop k) ∧ G wr ∧ Ok w.heap.size w wr))
  case atStart => exact ⟨0, rfl, Nat.zero_le _, rfl, rfl, H0.out⟩
  case round =>
    obtain ⟨k, rfl, hk, hg, H⟩ := hrel
    have HG := hid hg
    clear hg H0
    by_cases hlt : k < n
    · have hlx : k < X.length := by have := HX.out; omega
      obtain ⟨b, off, rfl, hb, c1⟩ := HS.out.at_ k hlx
      have d1 := (H.out.2.2.1.cell (p := ⟨b, off + k, none⟩) hb).trans c1
      have HE : Hid (idxQ p 0 X = if p X[k] = true then (k : Int) else idxQ p (k + 1) (X.drop (k + 1))) := by
        show _ = _
        rw [H.out.1, List.drop_eq_getElem_cons hlx]; rfl
      have HV : Hid (Calls Tryz.prog 25 #[.int .i32 X[k]] wr fun e w' => e = .returned (.bool (p X[k])) ∧ Below wr.heap.size wr w') := HC.out.call wr X[k] (HI.out _ (List.getElem_mem hlx)) H.out.2.1
      clear c1
      generalize X[k] = x at *
      have z1 : (k : Int) < (n : Int) := by omega
      by_cases hp : p x = true
      · have HR : Hid (idxQ p 0 X = (k : Int)) := by show _ = _; rw [HE.out, if_pos hp]
        rw [hp] at HV
        clear hp HE
        go_wp2_with fail
        refine HV.out.mono ?_
        rintro e w' ⟨rfl, hb'⟩
        have hok := hid (H.out.2.2.step hb')
        clear hb'
        go_wp2_with fail
        go_ret
        exact ⟨ret_int HR.out.symm, hok.out.1⟩
      · have HR : Hid (idxQ p 0 X = idxQ p (k + 1) (X.drop (k + 1))) := by show _ = _; rw [HE.out, if_neg hp]
        have hp2 : p x = false := by simpa using hp
        rw [hp2] at HV
        clear hp hp2 HE
        go_wp2_with fail
        refine HV.out.mono ?_
        rintro e w' ⟨rfl, hb'⟩
        have HN : Hid (G w' ∧ Ok w.heap.size w w') := ⟨HC.out.keep _ _ H.out.2.1 hb', H.out.2.2.step hb'⟩
        clear hb'
        go_wp2_with fail
        go_roundg (n - (k + 1))
        case measure => rw [HG.out]; omega
        case rel => exact ⟨k + 1, by go_num, by omega, rfl, HR.out, HN.out⟩
    · have e : X.drop k = [] := List.drop_eq_nil_of_le (by have := HX.out; omega)
      have HR : Hid (idxQ p 0 X = -1) := by show _ = _; rw [H.out.1, e]; rfl
      go_wp2_with fail
      go_ret
      exact ⟨ret_int HR.out.symm, H.out.2.2.1⟩

set_option maxHeartbeats 1000000 in
theorem contV_any {G : World → Prop} {p : Int → Bool} (w : World) (v : Value) (hC : Prd p G 25 #[]) (X : List Int) (hI : ∀ x ∈ X, I32 x) (hS : Sl .i32 w v X) (hG : G w) (hn : X.length ≤ 1000000) :
    Calls Tryz.prog 22 #[v, .func (.func 25) #[] #[]] w fun e w' => e = .returned (.bool (X.any p)) ∧ Below w.heap.size w w' := by
  obtain ⟨ao, cap, rfl, hS⟩ := hS
  have HI := hid (idxV_any w ao X.length cap hC X rfl hI hS hG hn)
  have HE : Hid (X.any p = decide (0 ≤ idxQ p 0 X)) := by
    show _ = _
    rw [Bool.eq_iff_iff, decide_eq_true_eq]
    exact (idxQ_iff p X 0).symm
  clear hC hS hG hI
  generalize idxQ p 0 X = v at *
  generalize X.length = n at *
  go_enter Tryz.func22, Tryz.ntmps22
  go_wp2_with fail
  refine HI.out.mono ?_
  rintro e w' ⟨rfl, hb⟩
  go_wp2_with fail
  go_ret
  refine ⟨ret_bool ?_, hb⟩
  rw [HE.out]
  try rfl

/-- A vowel, or a tail. -/
def votB (r : Int) : Bool := witB r 4449 21 || witB r 4520 27
def jnV (a b : Int) : Int := if lvB a b = true then lvI a b else if otB a b = true then otI a b else 0
theorem join_any (a b : Int) (w : World) : Calls Tryz.prog 49 #[.int .i32 a, .int .i32 b] w fun e w' => e = .returned (.tuple #[.int .i32 (jnV a b), .bool (lvB a b || otB a b)]) ∧ w' = w := by
  unfold jnV
  by_cases h2 : lvB a b = true
  · rw [if_pos h2, h2]; exact join_lv a b w h2
  · have h2' : lvB a b = false := by simpa using h2
    by_cases h3 : otB a b = true
    · rw [if_neg h2, if_pos h3, h2', h3]; exact join_ot a b w h3
    · have h3' : otB a b = false := by simpa using h3
      rw [if_neg h2, if_neg h3, h2', h3']; exact join_no a b w h2' h3'
set_option maxHeartbeats 1000000 in
theorem vot_any (x : Int) (w : World) : Calls Tryz.prog 25 #[.int .i32 x] w fun e w' => e = .returned (.bool (votB x)) ∧ w' = w := by
  have H1 := hid (join_any 4352 x w)
  have H2 := hid (join_any 44032 x w)
  have e1 : (lvB 4352 x || otB 4352 x) = witB x 4449 21 := by
    have a1 : witB 4352 4352 19 = true := rfl
    have a2 : opnB 4352 = false := rfl
    unfold lvB otB
    rw [a1, a2]; simp
  have e2 : (lvB 44032 x || otB 44032 x) = witB x 4520 27 := by
    have a1 : witB 44032 4352 19 = false := rfl
    have a2 : opnB 44032 = true := rfl
    unfold lvB otB
    rw [a1, a2]; simp
  rw [e1] at H1
  rw [e2] at H2
  have HE : Hid (votB x = (witB x 4449 21 || witB x 4520 27)) := rfl
  clear e1 e2
  generalize jnV 4352 x = j1 at *
  generalize jnV 44032 x = j2 at *
  generalize witB x 4449 21 = b1 at *
  generalize witB x 4520 27 = b2 at *
  cases b1
  all_goals
    go_enter Tryz.func25, Tryz.ntmps25
    go_wp2_with fail
    refine H1.out.mono ?_
    rintro e w1 ⟨rfl, rfl⟩
    go_wp2_with fail
    refine H2.out.mono ?_
    rintro e w2 ⟨rfl, rfl⟩
    go_wp2_with fail
    go_ret
    exact ⟨ret_bool (by rw [HE.out]; rfl), rfl⟩
theorem any_or (p q : Int → Bool) : ∀ (l : List Int), l.any (fun r => p r || q r) = (l.any p || l.any q)
  | [] => rfl
  | x :: l => by
    rw [List.any_cons, List.any_cons, List.any_cons, any_or p q l]
    cases p x <;> cases q x <;> cases l.any p <;> rfl
theorem secs_any (l : List Int) : l.any secB = (l.any s1 || l.any votB) := by
  rw [← any_or]
  congr 1
  funext r
  unfold secB votB
  rw [Bool.or_assoc]

set_option maxRecDepth 100000 in
set_option maxHeartbeats 4000000 in
theorem quick_any {w : World} {f b p d u s : Nat} (hF : Fm w f b p d u s) {v : Value} {zs : List Int} (hS : Sl .i32 w v zs) (hz : ∀ z ∈ zs, I32 z) (hn : zs.length ≤ 10000) :
    Calls Tryz.prog 7 #[.pointer (some ⟨f, 0, none⟩), v] w fun e w' => e = .returned (.int .i64 (quickP zs)) ∧ Below w.heap.size w w' := by
  have HSo := hid (sorted_any hF.bk hS (by omega : zs.length ≤ 1000000))
  have HEx := hid (fun (W : World) (h : Below w.heap.size w W) => contE_any (q := .pointer (some ⟨p, 0, none⟩)) (G := fun W => PW W p d u s allP 395) (p := exq) W v ⟨fun W x hx hG => (ex_g hG hx).mono (fun e w' h => ⟨h.1, by rw [h.2]; exact Below.refl _ _⟩), fun W W' h hb => h.step hb⟩ zs hz (hS.step h) (hF.step h).pw (by omega : zs.length ≤ 1000000))
  have HSe := hid (fun (W : World) (h : Below w.heap.size w W) => contS_any (q := .pointer (some ⟨p, 0, none⟩)) (G := fun W => PW W p d u s allP 395) (p := s1) W v ⟨fun W x hx hG => (sec_g hG hx).mono (fun e w' h => ⟨h.1, by rw [h.2]; exact Below.refl _ _⟩), fun W W' h hb => h.step hb⟩ zs hz (hS.step h) (hF.step h).pw (by omega : zs.length ≤ 1000000))
  have HVo := hid (fun (W : World) (h : Below w.heap.size w W) => contV_any (G := fun _ => True) (p := votB) W v ⟨fun W x _ _ => (vot_any x W).mono (fun e w' h => ⟨h.1, by rw [h.2]; exact Below.refl _ _⟩), fun _ _ _ _ => trivial⟩ zs hz (hS.step h) trivial (by omega : zs.length ≤ 1000000))
  have HCl := hid (fun (W : World) (h : Below w.heap.size w W) => (hF.step h).cells)
  have hc0 := hF.cells
  have HE : Hid (quickP zs = if srt clsP zs = zs then if zs.any exq = true then -1 else if (zs.any s1 || zs.any votB) = true then 0 else 1 else -1) := by
    show _ = _
    rw [← secs_any]; rfl
  clear hF hS hz hn
  by_cases h0 : srt clsP zs = zs
  · rw [decide_eq_true h0] at HSo
    rw [if_pos h0] at HE
    clear h0
    generalize zs.any exq = b1 at *
    generalize zs.any s1 = b2 at *
    generalize zs.any votB = b3 at *
    generalize quickP zs = Q at *
    cases b1 with
    | true =>
      have HR : Hid (Q = -1) := HE.out
      go_enter Tryz.func7, Tryz.ntmps7
      go_wp2_with fail
      refine HSo.out.mono ?_
      rintro e w1 ⟨rfl, hb1⟩
      have HB1 := hid hb1
      have hc1 := HCl.out w1 hb1
      clear hb1
      go_wp2_with fail
      refine (HEx.out w1 HB1.out).mono ?_
      rintro e w2 ⟨rfl, hb2⟩
      have HB2 := hid (HB1.out.trans (hb2.mono HB1.out.size))
      clear hb2
      go_wp2_with fail
      go_ret
      exact ⟨ret_int HR.out.symm, HB2.out⟩
    | false =>
      cases b2 with
      | true =>
        have HR : Hid (Q = 0) := HE.out
        go_enter Tryz.func7, Tryz.ntmps7
        go_wp2_with fail
        refine HSo.out.mono ?_
        rintro e w1 ⟨rfl, hb1⟩
        have HB1 := hid hb1
        have hc1 := HCl.out w1 hb1
        clear hb1
        go_wp2_with fail
        refine (HEx.out w1 HB1.out).mono ?_
        rintro e w2 ⟨rfl, hb2⟩
        have HB2 := hid (HB1.out.trans (hb2.mono HB1.out.size))
        have hc2 := HCl.out w2 HB2.out
        clear hb2
        go_wp2_with fail
        refine (HSe.out w2 HB2.out).mono ?_
        rintro e w3 ⟨rfl, hb3⟩
        have HB3 := hid (HB2.out.trans (hb3.mono HB2.out.size))
        clear hb3
        go_wp2_with fail
        go_ret
        exact ⟨ret_int HR.out.symm, HB3.out⟩
      | false =>
        have HR : Hid (Q = if b3 = true then 0 else 1) := by show _ = _; rw [HE.out]; simp
        clear HE
        cases b3 with
        | true =>
          have HR2 : Hid (Q = 0) := HR.out
          go_enter Tryz.func7, Tryz.ntmps7
          go_wp2_with fail
          refine HSo.out.mono ?_
          rintro e w1 ⟨rfl, hb1⟩
          have HB1 := hid hb1
          have hc1 := HCl.out w1 hb1
          clear hb1
          go_wp2_with fail
          refine (HEx.out w1 HB1.out).mono ?_
          rintro e w2 ⟨rfl, hb2⟩
          have HB2 := hid (HB1.out.trans (hb2.mono HB1.out.size))
          have hc2 := HCl.out w2 HB2.out
          clear hb2
          go_wp2_with fail
          refine (HSe.out w2 HB2.out).mono ?_
          rintro e w3 ⟨rfl, hb3⟩
          have HB3 := hid (HB2.out.trans (hb3.mono HB2.out.size))
          clear hb3
          go_wp2_with fail
          refine (HVo.out w3 HB3.out).mono ?_
          rintro e w4 ⟨rfl, hb4⟩
          have HB4 := hid (HB3.out.trans (hb4.mono HB3.out.size))
          clear hb4
          go_wp2_with fail
          go_ret
          exact ⟨ret_int HR2.out.symm, HB4.out⟩
        | false =>
          have HR2 : Hid (Q = 1) := HR.out
          go_enter Tryz.func7, Tryz.ntmps7
          go_wp2_with fail
          refine HSo.out.mono ?_
          rintro e w1 ⟨rfl, hb1⟩
          have HB1 := hid hb1
          have hc1 := HCl.out w1 hb1
          clear hb1
          go_wp2_with fail
          refine (HEx.out w1 HB1.out).mono ?_
          rintro e w2 ⟨rfl, hb2⟩
          have HB2 := hid (HB1.out.trans (hb2.mono HB1.out.size))
          have hc2 := HCl.out w2 HB2.out
          clear hb2
          go_wp2_with fail
          refine (HSe.out w2 HB2.out).mono ?_
          rintro e w3 ⟨rfl, hb3⟩
          have HB3 := hid (HB2.out.trans (hb3.mono HB2.out.size))
          clear hb3
          go_wp2_with fail
          refine (HVo.out w3 HB3.out).mono ?_
          rintro e w4 ⟨rfl, hb4⟩
          have HB4 := hid (HB3.out.trans (hb4.mono HB3.out.size))
          clear hb4
          go_wp2_with fail
          go_ret
          exact ⟨ret_int HR2.out.symm, HB4.out⟩
  · rw [decide_eq_false h0] at HSo
    rw [if_neg h0] at HE
    go_enter Tryz.func7, Tryz.ntmps7
    go_wp2_with fail
    refine HSo.out.mono ?_
    rintro e w1 ⟨rfl, hb1⟩
    go_wp2_with fail
    go_ret
    exact ⟨ret_int HE.out.symm, hb1⟩

set_option maxRecDepth 100000 in
set_option maxHeartbeats 2000000 in
theorem stable_any {w : World} {f b p d u s : Nat} (hF : Fm w f b p d u s) {r : Int} (hr : I32 r) :
    Calls Tryz.prog 12 #[.pointer (some ⟨f, 0, none⟩), .int .i32 r] w fun e w' => e = .returned (.bool (decide (nfcP clsP [r] = [r]))) ∧ Below w.heap.size w w' := by
  have hI : ∀ z ∈ [r], I32 z := fun z hz => by simp at hz; subst hz; exact hr
  have hb0 : Below w.heap.size w (w.alloc (.cells #[.int .i32 r] 21)) := (Below.refl _ _).alloc (Nat.le_refl _) _
  have HS := hid (sl1 .i32 w 21 r w.heap.size rfl).sl
  have HN := hid (nfc_any (hF.step hb0) HS.out hI (by simp))
  have hlC : (nfcP clsP [r]).length ≤ 1000000000 := Nat.le_trans (nfc_I32 [r] hI).2 (by simp)
  have HEq := hid (fun (W : World) (v : Value) (h1 : Sl .i32 W v (nfcP clsP [r])) (h2 : Sl .i32 W (.slice (some ⟨w.heap.size, 0, none⟩) 1 1) [r]) => eq_any v _ _ _ W h1 h2 hlC)
  have HB0 := hid hb0
  clear hF hI hb0 hlC hr
  go_enter Tryz.func12, Tryz.ntmps12
  go_wp2_with fail
  refine HN.out.mono ?_
  rintro e w1 ⟨v1, rfl, h1, hb1⟩
  have H1 : Hid (Sl .i32 w1 v1 (nfcP clsP [r]) ∧ Sl .i32 w1 (.slice (some ⟨w.heap.size, 0, none⟩) 1 1) [r] ∧ Below w.heap.size w w1) := ⟨h1, HS.out.step hb1, HB0.out.trans (hb1.mono HB0.out.size)⟩
  clear h1 hb1
  go_wp2_with fail
  refine (HEq.out w1 v1 H1.out.1 H1.out.2.1).mono ?_
  rintro e w2 ⟨rfl, hb2⟩
  have HB2 := hid (H1.out.2.2.trans (hb2.mono H1.out.2.2.size))
  clear hb2
  go_wp2_with fail
  go_ret
  exact ⟨rfl, HB2.out⟩

set_option maxRecDepth 100000 in
set_option maxHeartbeats 1000000 in
theorem rsecond_any {w : World} {g cap : Nat} (h : RR3 w g allP) (r : Int) :
    Calls Tryz.prog 31 #[.slice (some ⟨g, 0, none⟩) allP.length cap, .int .i64 r] w fun e w' => e = .returned (.bool (secB r)) ∧ Below w.heap.size w w' := by
  have HS := hid (rsec_any (cap := cap) h (by decide) r)
  rw [rs_eq] at HS
  have HE : Hid (secB r = (s1 r || witB r 4449 21 || witB r 4520 27)) := rfl
  have HW : Hid (witB r 4449 21 = decide (4449 ≤ r ∧ r < 4470) ∧ witB r 4520 27 = decide (4520 ≤ r ∧ r < 4547)) := ⟨rfl, rfl⟩
  clear h
  generalize s1 r = b at *
  generalize allP.length = al at *
  by_cases h1 : 4449 ≤ r ∧ r ≤ 4469
  · have HR : Hid (secB r = true) := by show _ = _; rw [HE.out, HW.out.1, decide_eq_true (by omega)]; simp
    obtain ⟨q1, q2⟩ := h1
    go_enter Tryz.func31, Tryz.ntmps31
    go_wp2_with fail
    go_ret
    exact ⟨ret_bool HR.out.symm, Below.refl _ _⟩
  · by_cases h2 : 4520 ≤ r ∧ r ≤ 4546
    · have HR : Hid (secB r = true) := by show _ = _; rw [HE.out, HW.out.2, decide_eq_true (by omega)]; simp
      obtain ⟨q1, q2⟩ := h2
      have q3 : 4449 ≤ r := by omega
      have q4 : ¬ r ≤ 4469 := by omega
      go_enter Tryz.func31, Tryz.ntmps31
      go_wp2_with fail
      go_ret
      exact ⟨ret_bool HR.out.symm, Below.refl _ _⟩
    · have HR : Hid (secB r = b) := by show _ = _; rw [HE.out, HW.out.1, HW.out.2, decide_eq_false (by omega), decide_eq_false (by omega)]; simp
      by_cases q1 : 4449 ≤ r
      · have q2 : ¬ r ≤ 4469 := by omega
        by_cases q3 : 4520 ≤ r
        · have q4 : ¬ r ≤ 4546 := by omega
          clear h1 h2
          go_enter Tryz.func31, Tryz.ntmps31
          go_wp2_with fail
          refine HS.out.mono ?_
          rintro e w1 ⟨rfl, hb1⟩
          go_wp2_with fail
          go_ret
          exact ⟨ret_bool HR.out.symm, hb1⟩
        · clear h1 h2
          go_enter Tryz.func31, Tryz.ntmps31
          go_wp2_with fail
          refine HS.out.mono ?_
          rintro e w1 ⟨rfl, hb1⟩
          go_wp2_with fail
          go_ret
          exact ⟨ret_bool HR.out.symm, hb1⟩
      · have q3 : ¬ 4520 ≤ r := by omega
        clear h1 h2
        go_enter Tryz.func31, Tryz.ntmps31
        go_wp2_with fail
        refine HS.out.mono ?_
        rintro e w1 ⟨rfl, hb1⟩
        go_wp2_with fail
        go_ret
        exact ⟨ret_bool HR.out.symm, hb1⟩
end Nf
end Go.Proofs.YtclcmkklonnalaaGreat

namespace Go.Proofs.YtclcmkklonnalaaGreat
namespace Nf
open Go.RowKit Od Pr Ha

theorem any_take (p : Int → Bool) (l : List Int) (k : Nat) (h : k < l.length) : (l.take (k + 1)).any p = ((l.take k).any p || p l[k]) := by
  rw [List.take_succ_eq_append_getElem h, List.any_append]
  simp

set_option maxRecDepth 100000 in
set_option maxHeartbeats 4000000 in
theorem rquick_any {w : World} {v : Value} {zs : List Int} (hS : Sn .i64 w v zs) (hn : zs.length ≤ 10000) :
    Calls Tryz.prog 11 #[v] w fun e w' => e = .returned (.int .i64 (quickP zs)) ∧ Below w.heap.size w w' := by
  have HSo := hid (rsort_any hS (by omega : zs.length ≤ 1000000))
  have HSv := hid hS
  have HSm := hid (fun (W : World) (v1 : Value) (h1 : Sn .i64 W v1 (srt clsP zs)) (h2 : Sn .i64 W v zs) => same_any v1 v _ _ W h1.sl h2.sl (by rw [srt_len]; omega))
  have H0 := hid (Ok.start w)
  have HAll := hid (fun W => rall_any W)
  have HEx := hid (fun (W : World) (g cap : Nat) (h : RR3 W g allP) (r : Int) => rex_any (cap := cap) h (by decide) r)
  have HSc := hid (fun (W : World) (g cap : Nat) (h : RR3 W g allP) (r : Int) => rsecond_any (cap := cap) h r)
  have HE : Hid (quickP zs = if srt clsP zs = zs then if zs.any exq = true then -1 else if zs.any secB = true then 0 else 1 else -1) := rfl
  obtain ⟨ad, cap, rfl, hS⟩ := hS
  have HS := hid hS
  generalize hlen : zs.length = len at *
  have HLn := hid hlen
  clear hS hlen
  by_cases h0 : srt clsP zs = zs
  · rw [decide_eq_true h0] at HSm
    rw [if_pos h0] at HE
    clear h0
    go_enter Tryz.func11, Tryz.ntmps11
    go_wp2_with fail
    refine HSo.out.mono ?_
    rintro e w1 ⟨v1, rfl, h1, hb1⟩
    have H1 := hid (And.intro h1 (And.intro (HSv.out.step hb1) (H0.out.step hb1)))
    clear h1 hb1
    go_wp2_with fail
    refine (HSm.out w1 v1 H1.out.1 H1.out.2.1).mono ?_
    rintro e w2 ⟨rfl, hb2⟩
    have H2 := hid (H1.out.2.2.step hb2)
    clear hb2 H1 HSo HSm HSv
    go_wp2_with fail
    refine (HAll.out w2).mono ?_
    rintro e w3 ⟨va, rfl, h1, h2⟩
    obtain ⟨g, gcap, rfl, hR⟩ := rr3_of_own h1 (by decide)
    have H3 := hid (And.intro hR (H2.out.step h2))
    clear h1 h2 hR H2 HAll
    generalize allP.length = al at *
    go_wp2_with fail
    go_loopg [5] len (fun gg vi wr => ∃ k : Nat, vi = .int .i64 k ∧ k ≤ len ∧ gg = len - k ∧ Hid ((zs.take k).any exq = false ∧ RR3 wr g allP ∧ Ok w.heap.size w wr))
    case atStart => exact ⟨0, rfl, Nat.zero_le _, rfl, rfl, H3.out⟩
    case round =>
      obtain ⟨k, rfl, hk, hg, H⟩ := hrel
      have HG := hid hg
      clear hg
      by_cases hlt : k < len
      · have hlx : k < zs.length := by rw [HLn.out]; exact hlt
        obtain ⟨bb, off, e0, hb, c1⟩ := HS.out.at_ k hlx
        have e0' := Option.some.inj e0
        subst e0'
        have d1 := (H.out.2.2.1.cell (p := ⟨bb, off + k, none⟩) hb).trans c1
        have HEk := hid (HEx.out wr g gcap H.out.2.1 zs[k])
        rw [rex_eq] at HEk
        have HTk := hid (any_take exq zs k hlx)
        have HMe : Hid (zs[k] ∈ zs) := List.getElem_mem hlx
        clear c1
        generalize zs[k] = x at *
        have z1 : (k : Int) < (len : Int) := by omega
        cases hx : exq x with
        | true =>
          rw [hx] at HEk
          have HR : Hid (quickP zs = -1) := by
            show _ = _
            rw [HE.out, if_pos (List.any_eq_true.2 ⟨x, HMe.out, hx⟩)]
          clear hx
          go_wp2_with fail
          refine HEk.out.mono ?_
          rintro e w4 ⟨rfl, hb4⟩
          have H4 := hid (H.out.2.2.step hb4)
          clear hb4
          go_wp2_with fail
          go_ret
          exact ⟨ret_int HR.out.symm, H4.out.1⟩
        | false =>
          rw [hx] at HEk HTk
          have HT : Hid ((zs.take (k + 1)).any exq = false) := by show _ = _; rw [HTk.out, H.out.1]; rfl
          clear hx
          go_wp2_with fail
          refine HEk.out.mono ?_
          rintro e w4 ⟨rfl, hb4⟩
          have H4 := hid (And.intro (H.out.2.1.step hb4) (H.out.2.2.step hb4))
          clear hb4
          go_wp2_with fail
          go_roundg (len - (k + 1))
          case measure => rw [HG.out]; omega
          case rel => exact ⟨k + 1, by go_num, by omega, rfl, HT.out, H4.out⟩
      · have e : k = len := by omega
        subst e
        have HA : Hid (zs.any exq = false) := by
          have := H.out.1
          rwa [← HLn.out, List.take_length] at this
        have HE2 : Hid (quickP zs = if zs.any secB = true then 0 else 1) := by
          show _ = _
          rw [HE.out, if_neg (by rw [HA.out]; decide)]
        have H5 := hid H.out.2
        clear H HA HE H3 HEx
        go_wp2_with fail
        go_loopg [4, 6] k (fun gg vo vi wr => ∃ j : Nat, vi = .int .i64 j ∧ j ≤ k ∧ gg = k - j ∧ ∃ o : Int, vo = .int .i64 o ∧ Hid (o = (if (zs.take j).any secB = true then 0 else 1) ∧ RR3 wr g allP ∧ Ok w.heap.size w wr))
        case atStart => exact ⟨0, rfl, Nat.zero_le _, rfl, 1, rfl, rfl, H5.out⟩
        case round =>
          obtain ⟨j, rfl, hj, hg, o, rfl, H⟩ := hrel
          have HG := hid hg
          clear hg H5
          by_cases hlt : j < k
          · have hlx : j < zs.length := by rw [HLn.out]; exact hlt
            obtain ⟨bb, off, e0, hb, c1⟩ := HS.out.at_ j hlx
            have e0' := Option.some.inj e0
            subst e0'
            have d1 := (H.out.2.2.1.cell (p := ⟨bb, off + j, none⟩) hb).trans c1
            have HEk := hid (HSc.out wr g gcap H.out.2.1 zs[j])
            have HTk := hid (any_take secB zs j hlx)
            clear c1
            generalize zs[j] = x at *
            have z1 : (j : Int) < (k : Int) := by omega
            cases hx : secB x with
            | true =>
              rw [hx] at HEk HTk
              have HT : Hid ((0 : Int) = if (zs.take (j + 1)).any secB = true then 0 else 1) := by show _ = _; rw [HTk.out, Bool.or_true]; rfl
              clear hx
              go_wp2_with fail
              refine HEk.out.mono ?_
              rintro e w4 ⟨rfl, hb4⟩
              have H4 := hid (And.intro (H.out.2.1.step hb4) (H.out.2.2.step hb4))
              clear hb4
              go_wp2_with fail
              go_roundg (k - (j + 1))
              case measure => rw [HG.out]; omega
              case rel => exact ⟨j + 1, by go_num, by omega, rfl, 0, rfl, HT.out, H4.out⟩
            | false =>
              rw [hx] at HEk HTk
              have HT : Hid (o = if (zs.take (j + 1)).any secB = true then 0 else 1) := by show _ = _; rw [HTk.out, Bool.or_false]; exact H.out.1
              clear hx
              go_wp2_with fail
              refine HEk.out.mono ?_
              rintro e w4 ⟨rfl, hb4⟩
              have H4 := hid (And.intro (H.out.2.1.step hb4) (H.out.2.2.step hb4))
              clear hb4
              go_wp2_with fail
              go_roundg (k - (j + 1))
              case measure => rw [HG.out]; omega
              case rel => exact ⟨j + 1, by go_num, by omega, rfl, o, rfl, HT.out, H4.out⟩
          · have e : j = k := by omega
            subst e
            have HR : Hid (quickP zs = o) := by
              show _ = _
              have := H.out.1
              rw [← HLn.out, List.take_length] at this
              rw [HE2.out, this]
            have H6 := hid H.out.2.2
            clear H HE2
            have z1 : ¬ (j : Int) < (j : Int) := by omega
            go_wp2_with fail
            go_ret
            exact ⟨ret_int HR.out.symm, H6.out.1⟩
  · rw [decide_eq_false h0] at HSm
    rw [if_neg h0] at HE
    clear h0
    go_enter Tryz.func11, Tryz.ntmps11
    go_wp2_with fail
    refine HSo.out.mono ?_
    rintro e w1 ⟨v1, rfl, h1, hb1⟩
    have H1 := hid (And.intro h1 (And.intro (HSv.out.step hb1) (H0.out.step hb1)))
    clear h1 hb1
    go_wp2_with fail
    refine (HSm.out w1 v1 H1.out.1 H1.out.2.1).mono ?_
    rintro e w2 ⟨rfl, hb2⟩
    have H2 := hid (H1.out.2.2.step hb2)
    clear hb2
    go_wp2_with fail
    go_ret
    exact ⟨ret_int HE.out.symm, H2.out.1⟩

theorem quick_cases (l : List Int) : (quickP l = -1 ∧ decide (nfcP clsP l = l) = false) ∨ quickP l = 0 ∨ (quickP l = 1 ∧ decide (nfcP clsP l = l) = true) := by
  have h : quickP l = -1 ∨ quickP l = 0 ∨ quickP l = 1 := by
    unfold quickP
    split
    · split
      · exact .inl rfl
      · split
        · exact .inr (.inl rfl)
        · exact .inr (.inr rfl)
    · exact .inl rfl
  rcases h with h | h | h
  · exact .inl ⟨h, decide_eq_false (quick_no l h)⟩
  · exact .inr (.inl h)
  · exact .inr (.inr ⟨h, decide_eq_true (quick_yes l h)⟩)
end Nf
end Go.Proofs.YtclcmkklonnalaaGreat
