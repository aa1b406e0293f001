import Derived.Test.YtemdmalcoemhnabRngx19
import Derived.Laws.AppendOwnNone
import Derived.Test.YtemdmalcoemhnabNfc0x8
import Derived.Deep.OwnRows
import Derived.Shelf.Abstract
import Derived.Deep.RegionHeld3
import Derived.Laws.EntriesVeiled
namespace Go.Proofs.Ytemdmalcoemhnab
namespace Ap
open Go.RowKit Od

theorem hr {p : Prop} (h : p) : Hid p := h
/-- append(out, l...) of runes onto a row of the call's own, l any slice. -/
theorem app32 {ops : Array Oper} {rest : List Oper} {o : Oper} {a : Act} {Q : Exit → Act → World → Prop} (hgd : o.guard = none) (s x : Operand)
    (ho : o.op = .call { callee := .builtin .append, args := #[s, x], argTypes := #[22, 22] }) (W : World) (B : Nat) (v u : Value) (xs zs : List Int) (hs : a.eval s = v) (hx : a.eval x = u)
    (hown : W.ownsRow B 21 1 v xs.length (ivs .i32 xs)) (hz : Sl .i32 W u zs) (hn : xs.length + zs.length ≤ 1000000000) (hB : B ≤ W.heap.size)
    (h : ∀ v' w', w'.ownsRow B 21 1 v' (xs ++ zs).length (ivs .i32 (xs ++ zs)) → Below B W w' → (∀ k, k < W.heap.size → v.ownBlock ≠ some k → w'.heap[k]? = W.heap[k]?) → wpList Try.prog ops Q rest (a.put o.dst v') w') :
    wpList Try.prog ops Q (o :: rest) a W := by
  obtain ⟨i0, hi, hz0, hz1, hz2⟩ := info_parts Try.info_i32
  obtain ⟨ao, cap, rfl, hz⟩ := hz
  cases ao with
  | none =>
    obtain ⟨e1, e2⟩ := hz.none_ rfl
    have e3 : zs = [] := List.eq_nil_of_length_eq_zero e1
    subst e3 e2
    refine wpList_append_own_none hgd s x 22 ho B 21 i0 1 Try.underlying22 hi v xs.length (ivs .i32 xs) hs hown hx ?_
    exact h v W (by rw [List.append_nil]; exact hown) (Below.refl _ _) (fun _ _ _ => rfl)
  | some ad =>
    refine wpList_append_own_at _ hgd s x 22 ho B 21 i0 (.int .i32 0) 1 4 Try.underlying22 hi hz0 hz1 hz2 rfl (by decide) v xs.length (ivs .i32 xs) hs hown ad zs.length cap (ivs .i32 zs) hx (by rw [ivs_len]; omega)
      (fun j u hj => ?_) (fun u hu => by simp [ivs] at hu; obtain ⟨z, _, rfl⟩ := hu; rfl) (by unfold maxLen; omega) (by omega) hB (fun v' w' h1 h2 h3 _ => h v' w' ?_ (below_of_grown h2 B hB (fun k e => (hown.lt k e).1)) (fun k hk hne => h2.block k hk (fun e => hne e.symm)))
    · have hlt : j < zs.length := by
        have := (List.getElem?_eq_some_iff.1 hj).1
        rwa [ivs_len] at this
      obtain ⟨b, off, e, hb, hc⟩ := hz.at_ j hlt
      simp at e
      subst e
      have e2 : (⟨b, off, none⟩ : Addr).add j = ⟨b, off + j, none⟩ := by unfold Addr.add; split <;> simp_all
      rw [e2, hc]
      simp [ivs, hlt] at hj
      rw [hj]
    · have e : ivs .i32 xs ++ ivs .i32 zs = ivs .i32 (xs ++ zs) := by simp [ivs]
      rw [List.length_append, ← e]; exact h1
end Ap
end Go.Proofs.Ytemdmalcoemhnab

namespace Go.Proofs.Ytemdmalcoemhnab
namespace Ma
open Od Pr Ha Nf

/-- In lower case and usual width; the full stop for the one that is typed among ideographs. -/
def tP (x : Int) : Int := widP (lowP x spanT)
def stP (x : Int) : Int := if x = 12290 then 46 else x

/-- What a code point falls apart into keeps what its parts keep. -/
theorem dn_row (r : Int) (h : (dnP r).2.2 ≠ 0) : ∃ x ∈ allP, x.1 = r ∧ dnP r = valP x := by
  have e : dnP r = (dnF allP r).getD (0, 0, 0) := by unfold dnP; rw [rd_dn]
  cases hd : dnF allP r with
  | none => rw [e, hd] at h; exact absurd rfl h
  | some v =>
    obtain ⟨x, hx, h1, h2⟩ := dn_mem allP r v hd
    exact ⟨x, hx, h1, by rw [e, hd, Option.getD_some, h2]⟩
theorem ap_inv (P : Int → Prop) (hrow : ∀ x ∈ allP, P x.1 → P x.2.1 ∧ (x.2.2 ≠ 0 → P x.2.2)) (hj : ∀ y, 4352 ≤ y → y ≤ 4546 → P y) : ∀ (n : Nat) (r : Int), P r → ∀ y ∈ apF n r, P y
  | 0, r, h, y, hy => by rw [apF, List.mem_singleton] at hy; rw [hy]; exact h
  | n + 1, r, h, y, hy => by
    rw [apF] at hy
    by_cases h1 : sylB r = true
    · rw [if_pos h1] at hy
      have := sylL_bd h1 y hy
      exact hj y this.1 this.2
    · rw [if_neg h1] at hy
      by_cases h2 : (dnP r).2.2 = 1
      · rw [if_pos h2] at hy
        obtain ⟨x, hx, e1, e2⟩ := dn_row r (by omega)
        refine ap_inv P hrow hj n _ ?_ y hy
        rw [e2]
        exact (hrow x hx (by rw [e1]; exact h)).1
      · rw [if_neg h2] at hy
        by_cases h3 : (dnP r).2.2 = 2
        · rw [if_pos h3, List.mem_append] at hy
          obtain ⟨x, hx, e1, e2⟩ := dn_row r (by omega)
          have hp := hrow x hx (by rw [e1]; exact h)
          have hne : x.2.2 ≠ 0 := fun e => by
            rw [e2] at h3
            unfold valP at h3
            rw [if_pos e] at h3
            exact absurd (show (1 : Int) = 2 from h3) (by decide)
          rcases hy with hy | hy
          · refine ap_inv P hrow hj n _ ?_ y hy
            rw [e2]; exact hp.1
          · refine ap_inv P hrow hj n _ ?_ y hy
            rw [e2]; exact hp.2 hne
        · rw [if_neg h3, List.mem_singleton] at hy
          rw [hy]; exact h
theorem mk_inv (P : Int → Prop) (hrow : ∀ x ∈ allP, skipB x = false → P x.2.1 → P x.2.2 → P x.1) (hs : ∀ y, 44032 ≤ y → y ≤ 55203 → P y) (a b : Int) (h : mkB a b = true) (ha : P a) (hb : P b) : P (mkI a b) := by
  unfold mkB at h
  unfold mkI
  by_cases h1 : u2 a b = true
  · rw [if_pos h1]
    unfold u2 at h1
    unfold u1
    cases hu : upF allP (a, b) with
    | none => rw [hu] at h1; cases h1
    | some z =>
      obtain ⟨x, hx, h2, h3, rfl⟩ := up_mem allP _ z hu
      injection h3 with e1 e2
      exact hrow x hx h2 (by rw [← e1]; exact ha) (by rw [← e2]; exact hb)
  · rw [if_neg h1]
    have h1' : u2 a b = false := by simpa using h1
    rw [h1', Bool.false_or, Bool.or_eq_true] at h
    by_cases h2 : lvB a b = true
    · rw [if_pos h2]
      have := syl_bd (lv_parts a b h2).1
      exact hs _ this.1 this.2
    · rw [if_neg h2]
      have := syl_bd (ot_parts a b (h.resolve_left h2)).2.2.1
      exact hs _ this.1 this.2
section
variable (c : Int → Int)
theorem out_mem (s : CS) (y : Int) : y ∈ outC s ↔ y ∈ s.1 ∨ s.2.1 = some y ∨ y ∈ s.2.2 := by
  unfold outC
  rw [List.mem_append, List.mem_append, Option.mem_toList, or_assoc]
theorem step_inv (P : Int → Prop) (hm : ∀ a b, mkB a b = true → P a → P b → P (mkI a b)) (s : CS) (r : Int) (hs : ∀ y ∈ outC s, P y) (hr : P r) : ∀ y ∈ outC (stepC c s r), P y := by
  intro y hy
  cases ht : tryC c s r with
  | false =>
    rw [outC_no c s r ht, List.mem_append, List.mem_singleton] at hy
    rcases hy with hy | rfl
    · exact hs y hy
    · exact hr
  | true =>
    unfold stepC at hy
    rw [if_pos ht, out_mem] at hy
    rcases hy with hy | hy | hy
    · exact hs y ((out_mem s y).2 (.inl hy))
    · cases hx : s.2.1 with
      | none => rw [hx] at hy; cases hy
      | some x =>
        rw [hx] at hy
        injection hy with hy
        rw [← hy]
        refine hm x r ?_ (hs x ((out_mem s x).2 (.inr (.inl hx)))) hr
        unfold tryC at ht
        rw [hx] at ht
        simp only [Bool.and_eq_true] at ht
        exact ht.2
    · exact hs y ((out_mem s y).2 (.inr (.inr hy)))
theorem fold_inv (P : Int → Prop) (hm : ∀ a b, mkB a b = true → P a → P b → P (mkI a b)) : ∀ (l : List Int) (s : CS), (∀ y ∈ outC s, P y) → (∀ x ∈ l, P x) → ∀ y ∈ outC (l.foldl (stepC c) s), P y
  | [], _, hs, _ => hs
  | r :: l, s, hs, hl => fold_inv P hm l (stepC c s r) (step_inv c P hm s r hs (hl r List.mem_cons_self)) (fun x hx => hl x (List.mem_cons_of_mem _ hx))
theorem nfc_inv (P : Int → Prop) (hrow : ∀ x ∈ allP, P x.1 → P x.2.1 ∧ (x.2.2 ≠ 0 → P x.2.2)) (hj : ∀ y, 4352 ≤ y → y ≤ 4546 → P y) (hrow2 : ∀ x ∈ allP, skipB x = false → P x.2.1 → P x.2.2 → P x.1) (hs : ∀ y, 44032 ≤ y → y ≤ 55203 → P y)
    (l : List Int) (h : ∀ x ∈ l, P x) : ∀ y ∈ nfcP c l, P y := by
  unfold nfcP compP
  refine fold_inv c P (mk_inv P hrow2 hs) _ _ (fun y hy => by simp [outC] at hy) (fun x hx => ?_)
  unfold nfdP at hx
  have h1 := (sw_srt c _).perm.mem_iff.2 hx
  obtain ⟨r, hr, h2⟩ := List.mem_flatMap.1 h1
  exact ap_inv P hrow hj 6 r (h r hr) x h2

/-- What is turned one by one, and takes part in nothing, may be turned ahead, or behind. -/
structure Com (s : Int → Int) : Prop where
  cls : ∀ x, c (s x) = c x
  ap : ∀ x, apP (s x) = (apP x).map s
  mk2 : ∀ a b, mkB (s a) (s b) = mkB a b
  mi : ∀ a b, mkB a b = true → mkI (s a) (s b) = s (mkI a b)
variable {c} {s : Int → Int} (h : Com c s)
include h
theorem ins_com (x : Int) : ∀ l : List Int, ins c (s x) (l.map s) = (ins c x l).map s
  | [] => rfl
  | y :: l => by
    rw [List.map_cons, ins, ins, h.cls, h.cls]
    split
    · rw [ins_com x l]; rfl
    · rfl
theorem srt_com : ∀ l : List Int, srt c (l.map s) = (srt c l).map s
  | [] => rfl
  | x :: l => by rw [List.map_cons, srt, srt, srt_com l, ins_com h]
theorem nfd_com (l : List Int) : nfdP c (l.map s) = (nfdP c l).map s := by
  unfold nfdP
  rw [← srt_com h]
  congr 1
  induction l with
  | nil => rfl
  | cons x l ih => rw [List.map_cons, List.flatMap_cons, List.flatMap_cons, List.map_append, ih, h.ap]
theorem gr_com (M : List Int) : gr c (M.map s) = gr c M := by
  unfold gr
  rw [List.foldl_map]
  simp only [h.cls]
def mapC (s : Int → Int) (q : CS) : CS := (q.1.map s, q.2.1.map s, q.2.2.map s)
omit h in
theorem out_com (q : CS) : outC (mapC s q) = (outC q).map s := by
  obtain ⟨A, o, B⟩ := q
  cases o <;> simp [outC, mapC]
theorem try_com (q : CS) (r : Int) : tryC c (mapC s q) (s r) = tryC c q r := by
  obtain ⟨A, o, B⟩ := q
  cases o with
  | none => rfl
  | some x =>
    show (!(decide (0 < gr c (B.map s)) && decide (c (s r) ≤ gr c (B.map s))) && mkB (s x) (s r)) = (!(decide (0 < gr c B) && decide (c r ≤ gr c B)) && mkB x r)
    rw [gr_com h, h.cls, h.mk2]
theorem step_com (q : CS) (r : Int) : stepC c (mapC s q) (s r) = mapC s (stepC c q r) := by
  have ht := try_com h q r
  have ho := out_com (s := s) q
  unfold stepC
  rw [ht, h.cls]
  by_cases h1 : tryC c q r = true
  · rw [if_pos h1, if_pos h1]
    obtain ⟨A, o, B⟩ := q
    cases o with
    | none => rfl
    | some x =>
      simp only [mapC, Option.map_some]
      unfold tryC at h1
      simp only [Bool.and_eq_true] at h1
      rw [h.mi x r h1.2]
  · rw [if_neg h1, if_neg h1]
    by_cases h2 : c r = 0
    · rw [if_pos h2, if_pos h2, ho]; rfl
    · rw [if_neg h2, if_neg h2]
      simp [mapC]
theorem fold_com : ∀ (l : List Int) (q : CS), (l.map s).foldl (stepC c) (mapC s q) = mapC s (l.foldl (stepC c) q)
  | [], _ => rfl
  | r :: l, q => by rw [List.map_cons, List.foldl_cons, List.foldl_cons, step_com h, fold_com l]
theorem nfc_com (l : List Int) : nfcP c (l.map s) = (nfcP c l).map s := by
  unfold nfcP compP
  rw [nfd_com h, ← out_com, ← fold_com h]
  rfl
end

/-- What the rows of pairs say of the two stops, and of lower case and width. -/
def rowS (x : R3) : Bool := !(x.1 == 12290) && !(x.1 == 46) && !(x.2.1 == 12290) && !(x.2.1 == 46) && !(x.2.2 == 12290) && !(x.2.2 == 46)
def rowT (x : R3) : Bool := (!(tP x.1 == x.1) || (tP x.2.1 == x.2.1 && (x.2.2 == 0 || tP x.2.2 == x.2.2))) && (skipB x || !(tP x.2.1 == x.2.1 && tP x.2.2 == x.2.2) || tP x.1 == x.1)
set_option maxRecDepth 1000000 in
theorem rows_s : allP.all rowS = true := by kernel_rfl
set_option maxRecDepth 1000000 in
theorem rows_t : allP.all rowT = true := by kernel_rfl
theorem row_s (x : R3) (hx : x ∈ allP) : x.1 ≠ 12290 ∧ x.1 ≠ 46 ∧ x.2.1 ≠ 12290 ∧ x.2.1 ≠ 46 ∧ x.2.2 ≠ 12290 ∧ x.2.2 ≠ 46 := by
  have h := List.all_eq_true.1 rows_s x hx
  unfold rowS at h
  simp only [Bool.and_eq_true, Bool.not_eq_true', beq_eq_false_iff_ne] at h
  exact ⟨h.1.1.1.1.1, h.1.1.1.1.2, h.1.1.1.2, h.1.1.2, h.1.2, h.2⟩
theorem row_t (x : R3) (hx : x ∈ allP) : (tP x.1 = x.1 → tP x.2.1 = x.2.1 ∧ (x.2.2 ≠ 0 → tP x.2.2 = x.2.2)) ∧ (skipB x = false → tP x.2.1 = x.2.1 → tP x.2.2 = x.2.2 → tP x.1 = x.1) := by
  have h := List.all_eq_true.1 rows_t x hx
  unfold rowT at h
  simp only [Bool.and_eq_true, Bool.or_eq_true, Bool.not_eq_true', beq_eq_false_iff_ne, beq_iff_eq, Bool.and_eq_false_iff] at h
  refine ⟨fun e => ?_, fun e1 e2 e3 => ?_⟩
  · have h1 := h.1.resolve_left (fun n => n e)
    exact ⟨h1.1, fun n => h1.2.resolve_left n⟩
  · rcases h.2 with (h2 | h2) | h2
    · rw [e1] at h2; cases h2
    · rcases h2 with h2 | h2
      · exact absurd e2 h2
      · exact absurd e3 h2
    · exact h2
theorem u2_no (a b : Int) (h : a = 12290 ∨ a = 46 ∨ b = 12290 ∨ b = 46) : u2 a b = false := by
  unfold u2
  cases hu : upF allP (a, b) with
  | none => rfl
  | some z =>
    obtain ⟨x, hx, _, h3, _⟩ := up_mem allP _ z hu
    injection h3 with e1 e2
    have := row_s x hx
    omega
theorem mk_no (a b : Int) (h : a = 12290 ∨ a = 46 ∨ b = 12290 ∨ b = 46) : mkB a b = false := by
  unfold mkB
  rw [u2_no a b h, Bool.false_or, Bool.or_eq_false_iff]
  refine ⟨?_, ?_⟩
  · cases e : lvB a b with
    | false => rfl
    | true => have := lv_parts a b e; omega
  · cases e : otB a b with
    | false => rfl
    | true =>
      have := ot_parts a b e
      have := syl_bd this.1
      omega
theorem st_far (x : Int) (h : x ≠ 12290) : stP x = x := if_neg h
theorem ap_stop (r : Int) (h : r = 12290 ∨ r = 46) : apP r = [r] := by
  refine ap_plain r (decide_eq_false (by omega)) (fun x hx e => ?_)
  have := row_s x hx
  omega
set_option maxRecDepth 1000000 in
theorem cls_full : clsP 46 = 0 := by kernel_rfl
set_option maxRecDepth 1000000 in
theorem cls_ideo : clsP 12290 = 0 := by kernel_rfl
theorem stop_com : Com clsP stP where
  cls x := by
    by_cases h : x = 12290
    · subst h; rw [cls_ideo]; exact cls_full
    · rw [st_far x h]
  ap x := by
    by_cases h : x = 12290
    · subst h; rw [ap_stop 12290 (.inl rfl)]; exact ap_stop 46 (.inr rfl)
    · rw [st_far x h]
      have hy : ∀ y ∈ apP x, y ≠ 12290 := ap_inv (fun y => y ≠ 12290) (fun z hz _ => ⟨(row_s z hz).2.2.1, fun _ => (row_s z hz).2.2.2.2.1⟩) (fun y h1 h2 => by omega) 6 x h
      generalize apP x = l at *
      induction l with
      | nil => rfl
      | cons y l ih => rw [List.map_cons, st_far y (hy y List.mem_cons_self), ← ih (fun z hz => hy z (List.mem_cons_of_mem _ hz))]
  mk2 a b := by
    by_cases h : a = 12290 ∨ a = 46 ∨ b = 12290 ∨ b = 46
    · rw [mk_no a b h]
      refine mk_no _ _ ?_
      unfold stP
      rcases h with rfl | rfl | rfl | rfl
      · exact .inr (.inl rfl)
      · exact .inr (.inl rfl)
      · exact .inr (.inr (.inr rfl))
      · exact .inr (.inr (.inr rfl))
    · rw [st_far a (fun e => h (.inl e)), st_far b (fun e => h (.inr (.inr (.inl e))))]
  mi a b hm := by
    have h : ¬ (a = 12290 ∨ a = 46 ∨ b = 12290 ∨ b = 46) := fun h => by rw [mk_no a b h] at hm; cases hm
    rw [st_far a (fun e => h (.inl e)), st_far b (fun e => h (.inr (.inr (.inl e))))]
    refine (st_far _ ?_).symm
    exact mk_inv (fun y => y ≠ 12290) (fun x hx _ _ _ => (row_s x hx).1) (fun y h1 h2 => by omega) a b hm (fun e => h (.inl e)) (fun e => h (.inr (.inr (.inl e))))
/-- Where nothing is in upper case, or wide. -/
def farB (a b : Int) : Bool := spanT.all (fun x => decide (x.2.1 < a) || decide (b < x.1))
theorem far_low {a b y : Int} (h : farB a b = true) (h1 : a ≤ y) (h2 : y ≤ b) : lowP y spanT = y := by
  refine low_out y spanT ?_
  rw [List.any_eq_false]
  intro x hx
  have := List.all_eq_true.1 h x hx
  rw [Bool.or_eq_true, decide_eq_true_eq, decide_eq_true_eq] at this
  rw [Bool.and_eq_true, decide_eq_true_eq, decide_eq_true_eq]
  omega
theorem wid_far {y : Int} (h : y < 65281 ∨ 65439 < y) : widP y = y := by
  unfold widP
  rw [if_neg (by omega), if_neg (by omega), if_neg (by omega), if_neg (by omega)]
theorem far_jamo : farB 4352 4546 = true := by kernel_rfl
theorem far_syl : farB 44032 55203 = true := by kernel_rfl
theorem far_dot : farB 46 46 = true := by kernel_rfl
theorem t_far {a b y : Int} (h : farB a b = true) (h1 : a ≤ y) (h2 : y ≤ b) (h3 : y < 65281) : tP y = y := by
  unfold tP
  rw [far_low h h1 h2, wid_far (.inl h3)]
def wideB (i : Nat) : Bool := !(lowP (65281 + (i : Int)) spanT == 65281 + (i : Int)) || lowP (widP (65281 + (i : Int))) spanT == widP (65281 + (i : Int))
theorem wide_all : (List.range 159).all wideB = true := by kernel_rfl
theorem low_wid {y : Int} (h : lowP y spanT = y) : lowP (widP y) spanT = widP y := by
  by_cases h1 : y < 65281 ∨ 65439 < y
  · rw [wid_far h1]; exact h
  · have h2 := List.all_eq_true.1 wide_all (y - 65281).toNat (List.mem_range.2 (by omega))
    have e : (65281 + ((y - 65281).toNat : Int)) = y := by omega
    unfold wideB at h2
    rw [e, Bool.or_eq_true, Bool.not_eq_true', beq_eq_false_iff_ne, beq_iff_eq] at h2
    exact h2.resolve_left (fun n => n h)
theorem t_t (x : Int) (h : I32 x) : tP (tP x) = tP x := by
  obtain ⟨l1, l2⟩ := low_facts x h
  obtain ⟨w1, _⟩ := wid_facts _ l2
  unfold tP
  rw [low_wid l1, w1]
theorem t_I32 (x : Int) (h : I32 x) : I32 (tP x) := (wid_facts _ (low_facts x h).2).2
/-- Mapped. -/
def mapP (l : List Int) : List Int := (nfcP clsP (l.map tP)).map stP
theorem map_map (l : List Int) (h : ∀ x ∈ l, I32 x) : mapP (mapP l) = mapP l := by
  have h1 : ∀ y ∈ nfcP clsP (l.map tP), tP y = y := by
    refine nfc_inv clsP (fun y => tP y = y) (fun x hx => (row_t x hx).1) (fun y h1 h2 => t_far far_jamo h1 h2 (by omega)) (fun x hx => (row_t x hx).2) (fun y h1 h2 => t_far far_syl h1 h2 (by omega)) _ (fun x hx => ?_)
    obtain ⟨y, hy, rfl⟩ := List.mem_map.1 hx
    exact t_t y (h y hy)
  have h2 : (mapP l).map tP = mapP l := by
    unfold mapP
    generalize nfcP clsP (l.map tP) = m at *
    clear h
    induction m with
    | nil => rfl
    | cons y m ih =>
      rw [List.map_cons, List.map_cons, ih (fun z hz => h1 z (List.mem_cons_of_mem _ hz))]
      congr 1
      by_cases e : y = 12290
      · subst e; exact t_far far_dot (Int.le_refl _) (Int.le_refl _) (by decide)
      · rw [st_far y e]; exact h1 y List.mem_cons_self
  have h3 : mapP (mapP l) = (nfcP clsP (mapP l)).map stP := by
    show (nfcP clsP ((mapP l).map tP)).map stP = _
    rw [h2]
  rw [h3]
  unfold mapP
  rw [nfc_com stop_com, nfc_nfc clsP (fun x => (cls_bd x).1), List.map_map]
  refine List.map_congr_left (fun y _ => ?_)
  show stP (stP y) = stP y
  unfold stP
  by_cases e : y = 12290
  · rw [if_pos e]; rfl
  · rw [if_neg e, if_neg e]
end Ma
end Go.Proofs.Ytemdmalcoemhnab

namespace Go.Proofs.Ytemdmalcoemhnab
namespace Ma
open Go.RowKit Od Pr Ha Nf

theorem hr {p : Prop} (h : p) : Hid p := h
theorem stop_any (r : Int) (w : World) : Calls Try.prog 26 #[.int .i32 r] w fun e w' => e = .returned (.int .i32 (stP r)) ∧ Below w.heap.size w w' := by
  unfold stP
  by_cases h : r = 12290
  · rw [if_pos h]
    have q : (r == 12290) = true := beq_iff_eq.2 h
    clear h
    go_enter Try.func26, Try.ntmps26
    go_wp2_with fail
    go_ret
    exact ⟨rfl, Below.refl _ _⟩
  · rw [if_neg h]
    have q : (r == 12290) = false := beq_eq_false_iff_ne.2 h
    clear h
    go_enter Try.func26, Try.ntmps26
    go_wp2_with fail
    go_ret
    exact ⟨rfl, Below.refl _ _⟩
/-- A function that turns a rune. -/
structure Trn (g : Nat) (t : Int → Int) : Prop where
  enter : ∀ args w, (callFunc g args).run Try.prog w = .ok (.enter g args) w
  call : ∀ W x, I32 x → Calls Try.prog g #[.int .i32 x] W fun e w' => e = .returned (.int .i32 (t x)) ∧ Below W.heap.size W w'
theorem trn_low : Trn 23 (fun x => lowP x spanT) := ⟨enters_of Try.func23 (by kernel_rfl) rfl, fun W x h => low_any x W h⟩
theorem trn_wid : Trn 24 widP := ⟨enters_of Try.func24 (by kernel_rfl) rfl, fun W x h => wid_any x W h⟩
theorem trn_stop : Trn 26 stP := ⟨enters_of Try.func26 (by kernel_rfl) rfl, fun W x _ => stop_any x W⟩
def tyF : Nat := 70
theorem each_any (g : Nat) (w : World) : Calls Try.prog 22 #[.func (.func g) #[] #[]] w fun e w' => ∃ p, e = .returned (.func (.func 40) #[] #[.pointer (some ⟨p, 0, none⟩)]) ∧ Bx w' p (.func (.func g) #[] #[]) tyF ∧ w.heap.size ≤ p ∧ Below w.heap.size w w' := by
  go_enter Try.func22, Try.ntmps22
  go_wp2_with fail
  go_ret
  exact ⟨_, rfl, Bx.new _ _ _, Nat.le_refl _, (Ok.start w).alloc.1⟩
theorem made32 (w : World) (n : Nat) : Blk (w.alloc (.cells (madeCells #[.int .i32 0] n) 21)) w.heap.size (List.replicate n 0) [] := by
  have e : madeCells #[.int .i32 0] n = (i32s (List.replicate n 0) ++ []).toArray := by
    apply Array.ext
    · simp [madeCells, i32s]
    · intro i h1 h2
      simp [madeCells, i32s, Nat.mod_one]
  rw [e]
  exact heap_new w _
theorem ok_set {B : Nat} {W0 w : World} (h : Ok B W0 w) (v i : Nat) (hv : B ≤ v) (x : Value) : Ok B W0 (w.setCell ⟨v, i, none⟩ x) := ⟨h.1.setCell (p := ⟨v, i, none⟩) hv x, by simpa [World.setCell] using h.2⟩
theorem turn_set (t : Int → Int) (X : List Int) (k : Nat) (h : k < X.length) : ((X.take k).map t ++ List.replicate (X.length - k) 0).set k (t X[k]) = (X.take (k + 1)).map t ++ List.replicate (X.length - (k + 1)) 0 := by
  have e1 : ((X.take k).map t).length = k := by simp; omega
  have e2 : X.length - k = (X.length - (k + 1)) + 1 := by omega
  rw [List.take_succ_eq_append_getElem h, List.map_append, e2, List.replicate_succ, List.set_append_right _ _ (by omega), e1, Nat.sub_self]
  simp
set_option maxRecDepth 100000 in
set_option maxHeartbeats 2000000 in
theorem each1_any {w : World} {p g : Nat} {t : Int → Int} (hT : Trn g t) (hp : Bx w p (.func (.func g) #[] #[]) tyF) {v : Value} {X : List Int} (hS : Sl .i32 w v X) (hI : ∀ x ∈ X, I32 x) (hn : X.length ≤ 1000000) :
    Calls Try.prog 40 #[v, .pointer (some ⟨p, 0, none⟩)] w fun e w' => ∃ v', e = .returned v' ∧ Sl .i32 w' v' (X.map t) ∧ Below w.heap.size w w' := by
  obtain ⟨ao, cap, rfl, hS⟩ := hS
  have HS := hr hS
  have HI := hr hI
  have HP := hr hp
  have HT := hr hT
  have hen := hT.enter
  have hmk : ∀ w, (Instr.makeSlice 22 (.int .i64 (X.length : Int)) (.int .i64 (X.length : Int))).run Try.prog w = .ok (.slice (some ⟨w.heap.size, 0, none⟩) X.length X.length) (w.alloc (.cells (madeCells #[.int .i32 0] X.length) 21)) := fun w => run_make_row' 22 21 (.int .i32 0) 4 Try.underlying22 Od.Try.info_i32 rfl .i64 .i64 X.length (by omega) (by omega) w
  have HB0 := hr (made32 w X.length)
  have HO := hr ((Ok.start w).alloc (o := .cells (madeCells #[.int .i32 0] X.length) 21))
  generalize hlen : X.length = n at *
  have HLn := hr hlen
  clear hlen hS hI hp hT
  go_enter Try.func40, Try.ntmps40
  go_wp2_with fail
  go_loopg [12] n (fun gg vi wr => ∃ k : Nat, vi = .int .i64 k ∧ k ≤ n ∧ gg = n - k ∧ Hid (Blk wr w.heap.size ((X.take k).map t ++ List.replicate (n - k) 0) [] ∧ Ok w.heap.size w wr))
  case atStart => exact ⟨0, rfl, Nat.zero_le _, rfl, by simpa using HB0.out, HO.out⟩
  case round =>
    obtain ⟨k, rfl, hk, hg, H⟩ := hrel
    have HG := hr hg
    clear hg HB0 HO
    by_cases hlt : k < n
    · have hlx : k < X.length := by have := HLn.out; omega
      obtain ⟨b, off, rfl, hb, c1⟩ := HS.out.at_ k hlx
      have d1 := (H.out.2.1.cell (p := ⟨b, off + k, none⟩) hb).trans c1
      have p1 := (HP.out.step H.out.2.1).cell
      have HV := hr (HT.out.call wr X[k] (HI.out _ (List.getElem_mem hlx)))
      have HE : Hid (((X.take k).map t ++ List.replicate (n - k) 0).set k (t X[k]) = (X.take (k + 1)).map t ++ List.replicate (n - (k + 1)) 0) := by show _ = _; rw [← HLn.out]; exact turn_set t X k hlx
      have hll : k < ((X.take k).map t ++ List.replicate (n - k) 0).length := by simp; omega
      have z1 : (k : Int) < (n : Int) := by omega
      clear c1
      generalize X[k] = x at *
      generalize t x = y at *
      go_wp2_with fail
      refine HV.out.mono ?_
      rintro e w' ⟨rfl, hb'⟩
      have HN := hr (And.intro (H.out.1.step hb') (H.out.2.step hb'))
      have t1 := HN.out.1.frozen k
      obtain ⟨u0, hu0⟩ : ∃ u, ((X.take k).map t ++ List.replicate (n - k) 0)[k]? = some u := ⟨_, List.getElem?_eq_getElem hll⟩
      have t2 := HN.out.1.cell k u0 hu0
      clear hb' HV hu0
      go_wp2_with fail
      go_roundg (n - (k + 1))
      case measure => rw [HG.out]; omega
      case rel => exact ⟨k + 1, by go_num, by omega, rfl, by rw [← HE.out]; exact HN.out.1.set k y hll, ok_set HN.out.2 _ k (Nat.le_refl _) _⟩
    · have e : k = X.length := by have := HLn.out; omega
      have z1 : ¬ (k : Int) < (n : Int) := by omega
      have HN : Hid (Blk wr w.heap.size (X.map t) []) := by
        have := H.out.1
        rw [e, HLn.out, Nat.sub_self, List.replicate_zero, List.append_nil, ← HLn.out, List.take_length] at this
        exact this
      have hl2 : n = (X.map t).length := by rw [List.length_map, HLn.out]
      have HL2 := hr hl2
      clear hl2
      go_wp2_with fail
      go_ret
      refine ⟨_, rfl, ⟨some ⟨w.heap.size, 0, none⟩, n, by rw [← HL2.out]; rfl, by rw [← HL2.out]; exact Nat.le_refl _, fun e => (by cases e), fun j hj => ⟨w.heap.size, 0, rfl, HN.out.lt, ?_⟩⟩, H.out.2.1⟩
      rw [Nat.zero_add]
      exact HN.out.cell j _ (List.getElem?_eq_getElem hj)
end Ma
end Go.Proofs.Ytemdmalcoemhnab

namespace Go.Proofs.Ytemdmalcoemhnab
namespace Ma
open Go.RowKit Od Pr Ha Nf

/-- A mapper in memory. -/
structure Mp (w : World) (m f b p d u s : Nat) : Prop where
  bx : Bx w m (.pointer (some ⟨f, 0, none⟩)) 43
  fm : Fm w f b p d u s
theorem Mp.step {w w' : World} {m f b p d u s : Nat} (h : Mp w m f b p d u s) (hb : Below w.heap.size w w') : Mp w' m f b p d u s := ⟨h.bx.step hb, h.fm.step hb⟩
theorem mnew_any {w : World} {b p d u s : Nat} (hb : Bk w b) (hp : PW w p d u s allP 395) :
    Calls Try.prog 5 #[.pointer (some ⟨b, 0, none⟩), .pointer (some ⟨p, 0, none⟩)] w fun e w' => ∃ m f, e = .returned (.pointer (some ⟨m, 0, none⟩)) ∧ Mp w' m f b p d u s ∧ Below w.heap.size w w' := by
  have HN := hr (new_any' hb hp)
  have HO := hr (Ok.start w)
  clear hb hp
  go_enter Try.func5, Try.ntmps5
  go_wp2_with fail
  refine HN.out.mono ?_
  rintro e w1 ⟨f, rfl, hF, hb⟩
  have HF := hr hF
  replace HO := hr (HO.out.step hb)
  clear hF hb HN
  go_wp2_with fail
  go_ret
  exact ⟨_, f, rfl, ⟨Bx.new _ _ _, HF.out.step (Ok.start w1).alloc.1⟩, HO.out.alloc.1⟩
theorem mnew_nob (v : Value) (w : World) : Calls Try.prog 5 #[.pointer none, v] w fun e w' => e = .returned (.pointer none) ∧ w' = w := by
  go_enter Try.func5, Try.ntmps5
  go_wp2_with fail
  go_ret
  exact ⟨rfl, rfl⟩
theorem mnew_nop (b : Nat) (w : World) : Calls Try.prog 5 #[.pointer (some ⟨b, 0, none⟩), .pointer none] w fun e w' => e = .returned (.pointer none) ∧ w' = w := by
  go_enter Try.func5, Try.ntmps5
  go_wp2_with fail
  go_ret
  exact ⟨rfl, rfl⟩
/-- A step's value. -/
def stV (p : Nat) : Value := .func (.func 40) #[] #[.pointer (some ⟨p, 0, none⟩)]
/-- The four steps, as they lie. -/
def Stp (w : World) (f : Nat) (v5 : Value) (W : World) : Prop := ∃ q p1 p2 p3, v5 = .pointer (some ⟨q, 0, none⟩) ∧ W.heap[q]? = some (.cells #[stV p1, stV p2, .func (.func 25) #[.pointer (some ⟨f, 0, none⟩)] #[], stV p3] 71) ∧
  Bx W p1 (.func (.func 23) #[] #[]) tyF ∧ Bx W p2 (.func (.func 24) #[] #[]) tyF ∧ Bx W p3 (.func (.func 26) #[] #[]) tyF ∧ Ok w.heap.size w W
/-- Boxes of functions. -/
def Bxs (W : World) (L : List (Nat × Nat)) : Prop := ∀ x ∈ L, Bx W x.1 (.func (.func x.2) #[] #[]) tyF
theorem Bxs.add {W W' : World} {L : List (Nat × Nat)} {p g : Nat} (h : Bxs W L) (hx : Bx W' p (.func (.func g) #[] #[]) tyF) (hb : Below W.heap.size W W') : Bxs W' ((p, g) :: L) := fun x hx' => by
  rcases List.mem_cons.1 hx' with rfl | hx'
  · exact hx
  · exact (h x hx').step hb
theorem Bxs.step {W W' : World} {L : List (Nat × Nat)} (h : Bxs W L) (hb : Below W.heap.size W W') : Bxs W' L := fun x hx => (h x hx).step hb
/-- A block for four steps, before they are laid. -/
def Nf4 (W : World) (q : Nat) : Prop := W.heap[q]? = some (.cells #[.nilFunc, .nilFunc, .nilFunc, .nilFunc] 71)
theorem Nf4.lt {W : World} {q : Nat} (h : Nf4 W q) : q < W.heap.size := (Array.getElem?_eq_some_iff.1 h).1
theorem Nf4.step {W W' : World} {q : Nat} (h : Nf4 W q) (hb : Below W.heap.size W W') : Nf4 W' q := (hb.block q h.lt).trans h
theorem Nf4.cells {W : World} {q : Nat} (h : Nf4 W q) : W.cell? ⟨q, 0, none⟩ = some .nilFunc ∧ W.cell? ⟨q, 1, none⟩ = some .nilFunc ∧ W.cell? ⟨q, 2, none⟩ = some .nilFunc ∧ W.cell? ⟨q, 3, none⟩ = some .nilFunc := by
  unfold World.cell?
  rw [h]
  exact ⟨rfl, rfl, rfl, rfl⟩
theorem Nf4.frozen {W : World} {q : Nat} (h : Nf4 W q) (i : Nat) : W.frozen? ⟨q, i, none⟩ = false := by
  have h' : W.heap[q]? = _ := h
  simp [World.frozen?, h']
theorem heap_set {w : World} {v : Nat} {cs : Array Value} {t : TypeId} (h : w.heap[v]? = some (.cells cs t)) (i : Nat) (x : Value) : (w.setCell ⟨v, i, none⟩ x).heap[v]? = some (.cells (cs.setIfInBounds i x) t) := by
  show (w.heap.modify v _)[v]? = _
  rw [Array.getElem?_modify]
  simp [h]
/-- What holds while the steps are made. -/
structure St (w : World) (m f b p d u s : Nat) (W : World) (L : List (Nat × Nat)) : Prop where
  ok : Ok w.heap.size w W
  mp : Mp W m f b p d u s
  bx : Bxs W L
theorem St.call {w W W' : World} {m f b p d u s pp g : Nat} {L : List (Nat × Nat)} (h : St w m f b p d u s W L) (hx : Bx W' pp (.func (.func g) #[] #[]) tyF) (hb : Below W.heap.size W W') : St w m f b p d u s W' ((pp, g) :: L) := ⟨h.ok.step hb, h.mp.step hb, h.bx.add hx hb⟩
theorem St.alloc {w W : World} {m f b p d u s : Nat} {L : List (Nat × Nat)} (h : St w m f b p d u s W L) (o : Obj) : St w m f b p d u s (W.alloc o) L := ⟨h.ok.alloc, h.mp.step (Ok.start W).alloc.1, h.bx.step (Ok.start W).alloc.1⟩
theorem St.cell {w W : World} {m f b p d u s : Nat} {L : List (Nat × Nat)} (h : St w m f b p d u s W L) : W.cell? ⟨m, 0, none⟩ = some (.pointer (some ⟨f, 0, none⟩)) := h.mp.bx.cell
theorem Mp.cell {W : World} {m f b p d u s : Nat} (h : Mp W m f b p d u s) : W.cell? ⟨m, 0, none⟩ = some (.pointer (some ⟨f, 0, none⟩)) := h.bx.cell
/-- A block that was made behind, and its four places still empty. -/
structure Em (w W : World) (q : Nat) : Prop where
  nf : Nf4 W q
  lo : w.heap.size ≤ q
theorem Em.new {w W W' : World} {m f b p d u s : Nat} {L : List (Nat × Nat)} (h : St w m f b p d u s W L) (hb : Below (W.alloc (.cells #[.nilFunc, .nilFunc, .nilFunc, .nilFunc] 71)).heap.size (W.alloc (.cells #[.nilFunc, .nilFunc, .nilFunc, .nilFunc] 71)) W') : Em w W' W.heap.size := ⟨Nf4.step (heap_new _ _) hb, h.ok.2⟩
theorem Em.step {w W W' : World} {q : Nat} (h : Em w W q) (hb : Below W.heap.size W W') : Em w W' q := ⟨h.nf.step hb, h.lo⟩
theorem set4_ok {w W : World} {q : Nat} (h : Ok w.heap.size w W) (hq : Em w W q) (x y z t : Value) : Ok w.heap.size w ((((W.setCell ⟨q, 0, none⟩ x).setCell ⟨q, 1, none⟩ y).setCell ⟨q, 2, none⟩ z).setCell ⟨q, 3, none⟩ t) :=
  ok_set (ok_set (ok_set (ok_set h q 0 hq.lo x) q 1 hq.lo y) q 2 hq.lo z) q 3 hq.lo t
theorem set4_cell {w W : World} {m f b p d u s q : Nat} (hM : Mp w m f b p d u s) (h : Ok w.heap.size w W) (hq : Em w W q) (x y z t : Value) : ((((W.setCell ⟨q, 0, none⟩ x).setCell ⟨q, 1, none⟩ y).setCell ⟨q, 2, none⟩ z).setCell ⟨q, 3, none⟩ t).cell? ⟨m, 0, none⟩ = some (.pointer (some ⟨f, 0, none⟩)) :=
  (hM.step (set4_ok h hq x y z t).1).cell
theorem set4_heap {w W : World} {q : Nat} (hq : Em w W q) (x y z t : Value) : ((((W.setCell ⟨q, 0, none⟩ x).setCell ⟨q, 1, none⟩ y).setCell ⟨q, 2, none⟩ z).setCell ⟨q, 3, none⟩ t).heap[q]? = some (.cells #[x, y, z, t] 71) :=
  heap_set (heap_set (heap_set (heap_set hq.nf 0 x) 1 y) 2 z) 3 t
theorem set4_bxs {w W : World} {q : Nat} {L : List (Nat × Nat)} (hq : Em w W q) (h : Bxs W L) (x y z t : Value) : Bxs ((((W.setCell ⟨q, 0, none⟩ x).setCell ⟨q, 1, none⟩ y).setCell ⟨q, 2, none⟩ z).setCell ⟨q, 3, none⟩ t) L := fun g hg => by
  have h1 := h g hg
  have hne : g.1 ≠ q := fun e => by
    have h2 : W.heap[q]? = _ := hq.nf
    rw [← e, h1] at h2
    simp at h2
  exact (Below.heap_setCell _ _ _ _ hne).trans ((Below.heap_setCell _ _ _ _ hne).trans ((Below.heap_setCell _ _ _ _ hne).trans ((Below.heap_setCell _ _ _ _ hne).trans h1)))
theorem stp_mk {w W : World} {f q p1 p2 p3 : Nat} {L : List (Nat × Nat)} (hh : W.heap[q]? = some (.cells #[stV p1, stV p2, .func (.func 25) #[.pointer (some ⟨f, 0, none⟩)] #[], stV p3] 71)) (hB : Bxs W L) (hok : Ok w.heap.size w W)
    (h1 : (p1, 23) ∈ L) (h2 : (p2, 24) ∈ L) (h3 : (p3, 26) ∈ L) : Stp w f (.pointer (some ⟨q, 0, none⟩)) W := by
  have e1 : Bx W p1 (.func (.func 23) #[] #[]) tyF := hB (p1, 23) h1
  have e2 : Bx W p2 (.func (.func 24) #[] #[]) tyF := hB (p2, 24) h2
  have e3 : Bx W p3 (.func (.func 26) #[] #[]) tyF := hB (p3, 26) h3
  exact ⟨q, p1, p2, p3, rfl, hh, e1, e2, e3, hok⟩
theorem stp_early {w W : World} {m f b p d u s q p1 p2 p3 : Nat} {L : List (Nat × Nat)} (h : St w m f b p d u s W L) (hq : Em w W q) (h1 : (p1, 23) ∈ L) (h2 : (p2, 24) ∈ L) (h3 : (p3, 26) ∈ L) :
    Stp w f (.pointer (some ⟨q, 0, none⟩)) ((((W.setCell ⟨q, 0, none⟩ (.func (.func 40) #[] #[.pointer (some ⟨p1, 0, none⟩)])).setCell ⟨q, 1, none⟩ (.func (.func 40) #[] #[.pointer (some ⟨p2, 0, none⟩)])).setCell ⟨q, 2, none⟩ (.func (.func 25) #[.pointer (some ⟨f, 0, none⟩)] #[])).setCell ⟨q, 3, none⟩ (.func (.func 40) #[] #[.pointer (some ⟨p3, 0, none⟩)])) :=
  stp_mk (set4_heap hq _ _ _ _) (set4_bxs hq h.bx _ _ _ _) (set4_ok h.ok hq _ _ _ _) h1 h2 h3
theorem stp_late {w W : World} {m f b p d u s p1 p2 p3 : Nat} {L : List (Nat × Nat)} (h : St w m f b p d u s W L) (h1 : (p1, 23) ∈ L) (h2 : (p2, 24) ∈ L) (h3 : (p3, 26) ∈ L) :
    Stp w f (.pointer (some ⟨W.heap.size, 0, none⟩)) (W.alloc (.cells #[.func (.func 40) #[] #[.pointer (some ⟨p1, 0, none⟩)], .func (.func 40) #[] #[.pointer (some ⟨p2, 0, none⟩)], .func (.func 25) #[.pointer (some ⟨f, 0, none⟩)] #[], .func (.func 40) #[] #[.pointer (some ⟨p3, 0, none⟩)]] 71)) :=
  stp_mk (heap_new W _) (h.alloc _).bx (h.alloc _).ok h1 h2 h3
/-- What stands behind so many steps. -/
def stg (X : List Int) : Nat → List Int
  | 0 => X
  | 1 => X.map (fun x => lowP x spanT)
  | 2 => (X.map (fun x => lowP x spanT)).map widP
  | 3 => nfcP clsP ((X.map (fun x => lowP x spanT)).map widP)
  | _ => (nfcP clsP ((X.map (fun x => lowP x spanT)).map widP)).map stP
theorem stg_four (X : List Int) : stg X 4 = mapP X := by
  have e : (X.map (fun x => lowP x spanT)).map widP = X.map tP := by rw [List.map_map]; rfl
  show (nfcP clsP ((X.map (fun x => lowP x spanT)).map widP)).map stP = _
  rw [e]; rfl
theorem map_I32 {t : Int → Int} (ht : ∀ x, I32 x → I32 (t x)) {X : List Int} (h : ∀ x ∈ X, I32 x) : ∀ y ∈ X.map t, I32 y := fun y hy => by
  obtain ⟨x, hx, rfl⟩ := List.mem_map.1 hy
  exact ht x (h x hx)
theorem stg_1 {X : List Int} (h : ∀ x ∈ X, I32 x) : ∀ y ∈ stg X 1, I32 y := map_I32 (fun x hx => (low_facts x hx).2) h
theorem stg_2 {X : List Int} (h : ∀ x ∈ X, I32 x) : ∀ y ∈ stg X 2, I32 y := map_I32 (fun x hx => (wid_facts x hx).2) (stg_1 h)
theorem stg_2l (X : List Int) : (stg X 2).length = X.length := by simp [stg]
theorem stg_3 {X : List Int} (h : ∀ x ∈ X, I32 x) : (∀ y ∈ stg X 3, I32 y) ∧ (stg X 3).length ≤ 96 * X.length := by
  have := nfc_I32 (stg X 2) (stg_2 h)
  rw [stg_2l] at this
  exact this
theorem four_cells {W : World} {q : Nat} {x y z t : Value} (h : W.heap[q]? = some (.cells #[x, y, z, t] 71)) : W.cell? ⟨q, 0, none⟩ = some x ∧ W.cell? ⟨q, 1, none⟩ = some y ∧ W.cell? ⟨q, 2, none⟩ = some z ∧ W.cell? ⟨q, 3, none⟩ = some t := by
  unfold World.cell?
  rw [h]
  exact ⟨rfl, rfl, rfl, rfl⟩
theorem info_step : (Try.prog.info? 68).map (fun i => (i.zero, i.size, i.bytes)) = some (some .nilFunc, 1, 8) := by kernel_rfl
theorem idx4 (x y z t : Value) (w : World) : (Instr.index 71 (.agg #[x, y, z, t]) (.int .i64 0)).run Try.prog w = .ok x w ∧ (Instr.index 71 (.agg #[x, y, z, t]) (.int .i64 1)).run Try.prog w = .ok y w ∧ (Instr.index 71 (.agg #[x, y, z, t]) (.int .i64 2)).run Try.prog w = .ok z w ∧ (Instr.index 71 (.agg #[x, y, z, t]) (.int .i64 3)).run Try.prog w = .ok t w := by
  obtain ⟨i0, hi, hz0, hz1, hz2⟩ := info_parts info_step
  have h := fun (i : Nat) (hl : i < 4) => Od.run_index_agg (P := Try.prog) w 71 68 4 i0 #[x, y, z, t] .i64 i Try.underlying71 hi hl
  refine ⟨(h 0 (by omega)).trans ?_, (h 1 (by omega)).trans ?_, (h 2 (by omega)).trans ?_, (h 3 (by omega)).trans ?_⟩
  all_goals
    rw [hz1]
    simp [part, isAgg, run_underlying Try.underlying68]
set_option maxRecDepth 100000 in
set_option maxHeartbeats 8000000 in
theorem map_any {w : World} {m f b p d u s : Nat} (hM : Mp w m f b p d u s) {v : Value} {X : List Int} (hS : Sl .i32 w v X) (hI : ∀ x ∈ X, I32 x) (hn : X.length ≤ 10000) :
    Calls Try.prog 9 #[.pointer (some ⟨m, 0, none⟩), v] w fun e w' => ∃ v', e = .returned v' ∧ Sl .i32 w' v' (mapP X) ∧ Below w.heap.size w w' := by
  have HM := hr hM
  have HS := hr hS
  have HI := hr hI
  have HE := hr (fun g W => each_any g W)
  have HD : Hid (St w m f b p d u s w.drew []) := ⟨(Ok.start w).step ((Below.refl _ _).drew), hM.step ((Below.refl _ _).drew), fun x hx => by simp at hx⟩
  have HA : Hid (St w m f b p d u s (w.alloc (.cells #[.nilFunc, .nilFunc, .nilFunc, .nilFunc] 71)).drew []) := ⟨(Ok.start w).alloc.step ((Below.refl _ _).drew), hM.step (((Ok.start w).alloc.step ((Below.refl _ _).drew)).1), fun x hx => by simp at hx⟩
  have HAe : Hid (Em w (w.alloc (.cells #[.nilFunc, .nilFunc, .nilFunc, .nilFunc] 71)).drew w.heap.size) := ⟨heap_new w _, Nat.le_refl _⟩
  have c0 := hM.bx.cell
  clear hM hS hI
  go_enter Try.func9, Try.ntmps9
  go_wp2_with fail
  go_cut [5] from 8 to 16 (fun v5 wx => Stp w f v5 wx)
  case first =>
    go_region_held3 (fun w' => w'.cell? ⟨m, 0, none⟩ = some (.pointer (some ⟨f, 0, none⟩)))
      (first | (with_reducible exact HD.out.cell) | (with_reducible exact HM.out.cell) | (with_reducible exact HA.out.cell) | (with_reducible exact (HD.out.alloc _).cell) | (with_reducible exact set4_cell HM.out HD.out.ok HQ.out _ _ _ _))
      (first
        | (go_at_call 22; refine (HE.out _ _).mono ?_; rintro e w' ⟨pp, rfl, hx, _, hb'⟩; with_reducible (have HD2 := hr (HD.out.call hx hb')); clear HD; have HD := HD2; clear HD2; (try (replace HQ := hr (HQ.out.step hb'); obtain ⟨k0, k1, k2, k3⟩ := HQ.out.nf.cells; have kf := HQ.out.nf.frozen)); clear hx hb')
        | (go_at_call 22; refine (HE.out _ _).mono ?_; rintro e w' ⟨pp, rfl, hx, _, hb'⟩; with_reducible (have HQ := hr (Em.new HD.out hb')); with_reducible (have HD2 := hr ((HD.out.alloc _).call hx hb')); clear HD; have HD := HD2; clear HD2; obtain ⟨k0, k1, k2, k3⟩ := HQ.out.nf.cells; have kf := HQ.out.nf.frozen; clear hx hb')
        | (go_at_call 22; refine (HE.out _ _).mono ?_; rintro e w' ⟨pp, rfl, hx, _, hb'⟩; with_reducible (have HQ := hr (HAe.out.step hb')); with_reducible (have HD2 := hr (HA.out.call hx hb')); clear HD; have HD := HD2; clear HD2; obtain ⟨k0, k1, k2, k3⟩ := HQ.out.nf.cells; have kf := HQ.out.nf.frozen; clear hx hb'))
    all_goals (try go_wp2_with fail)
    all_goals go_meet
    all_goals first | (with_reducible refine stp_early HD.out HQ.out ?_ ?_ ?_) | (with_reducible refine stp_late HD.out ?_ ?_ ?_) | skip
    all_goals first | exact List.mem_cons_self | exact List.mem_cons_of_mem _ List.mem_cons_self | exact List.mem_cons_of_mem _ (List.mem_cons_of_mem _ List.mem_cons_self)
  case rest =>
    obtain ⟨q, p1, p2, p3, rfl, hq, hb1, hb2, hb3, hok⟩ := hcut
    have HQ := hr hq
    have HB := hr (And.intro hb1 (And.intro hb2 hb3))
    have HO := hr hok
    obtain ⟨e0, e1, e2, e3⟩ := four_cells hq
    have HSw := hr (fun (W : World) (h : Below wc.heap.size wc W) => HS.out.step (HO.out.step h).1)
    have HFm := hr (fun (W : World) (h : Below wc.heap.size wc W) => HM.out.fm.step (HO.out.step h).1)
    have HBw := hr (fun (W : World) (h : Below wc.heap.size wc W) => And.intro (HB.out.1.step h) (And.intro (HB.out.2.1.step h) (HB.out.2.2.step h)))
    have HK := hr (Ok.start wc)
    unfold stV at e0 e1 e3
    have hi0 := fun W => (idx4 (.func (.func 40) #[] #[.pointer (some ⟨p1, 0, none⟩)]) (.func (.func 40) #[] #[.pointer (some ⟨p2, 0, none⟩)]) (.func (.func 25) #[.pointer (some ⟨f, 0, none⟩)] #[]) (.func (.func 40) #[] #[.pointer (some ⟨p3, 0, none⟩)]) W).1
    have hi1 := fun W => (idx4 (.func (.func 40) #[] #[.pointer (some ⟨p1, 0, none⟩)]) (.func (.func 40) #[] #[.pointer (some ⟨p2, 0, none⟩)]) (.func (.func 25) #[.pointer (some ⟨f, 0, none⟩)] #[]) (.func (.func 40) #[] #[.pointer (some ⟨p3, 0, none⟩)]) W).2.1
    have hi2 := fun W => (idx4 (.func (.func 40) #[] #[.pointer (some ⟨p1, 0, none⟩)]) (.func (.func 40) #[] #[.pointer (some ⟨p2, 0, none⟩)]) (.func (.func 25) #[.pointer (some ⟨f, 0, none⟩)] #[]) (.func (.func 40) #[] #[.pointer (some ⟨p3, 0, none⟩)]) W).2.2.1
    have hi3 := fun W => (idx4 (.func (.func 40) #[] #[.pointer (some ⟨p1, 0, none⟩)]) (.func (.func 40) #[] #[.pointer (some ⟨p2, 0, none⟩)]) (.func (.func 25) #[.pointer (some ⟨f, 0, none⟩)] #[]) (.func (.func 40) #[] #[.pointer (some ⟨p3, 0, none⟩)]) W).2.2.2
    have hen : ∀ args w, (callFunc 40 args).run Try.prog w = .ok (.enter 40 args) w := enters_of Try.func40 (by kernel_rfl) rfl
    have hen2 : ∀ args w, (callFunc 25 args).run Try.prog w = .ok (.enter 25 args) w := enters_of Try.func25 (by kernel_rfl) rfl
    clear hq hb1 hb2 hb3 hok
    go_wp2_with fail
    go_loopg [1, 18] 4 (fun gg vl vi wr => ∃ k : Nat, vi = .int .i64 k ∧ k ≤ 4 ∧ gg = 4 - k ∧ Hid (Sl .i32 wr vl (stg X k) ∧ Ok wc.heap.size wc wr))
    case atStart => exact ⟨0, rfl, Nat.zero_le _, rfl, HSw.out _ (Below.refl _ _), HK.out⟩
    case round =>
      obtain ⟨k, rfl, hk, hg, H⟩ := hrel
      have HG := hr hg
      clear hg HK
      have hk5 : k = 0 ∨ k = 1 ∨ k = 2 ∨ k = 3 ∨ k = 4 := by omega
      rcases hk5 with rfl | rfl | rfl | rfl | rfl
      · go_wp2_with fail
        refine (each1_any trn_low (HBw.out _ H.out.2.1).1 H.out.1 HI.out (by show X.length ≤ _; omega)).mono ?_
        rintro e w' ⟨v', rfl, hS', hb'⟩
        have HN : Hid (Sl .i32 w' v' (stg X 1) ∧ Ok wc.heap.size wc w') := ⟨hS', H.out.2.step hb'⟩
        clear hS' hb'
        go_wp2_with fail
        go_roundg (4 - 1)
        case measure => rw [HG.out]; omega
        case rel => exact ⟨1, rfl, by omega, rfl, HN.out⟩
      · go_wp2_with fail
        refine (each1_any trn_wid (HBw.out _ H.out.2.1).2.1 H.out.1 (stg_1 HI.out) (by show (X.map _).length ≤ _; rw [List.length_map]; omega)).mono ?_
        rintro e w' ⟨v', rfl, hS', hb'⟩
        have HN : Hid (Sl .i32 w' v' (stg X 2) ∧ Ok wc.heap.size wc w') := ⟨hS', H.out.2.step hb'⟩
        clear hS' hb'
        go_wp2_with fail
        go_roundg (4 - 2)
        case measure => rw [HG.out]; omega
        case rel => exact ⟨2, rfl, by omega, rfl, HN.out⟩
      · go_wp2_with fail
        refine (nfc_any (HFm.out _ H.out.2.1) H.out.1 (stg_2 HI.out) (by rw [stg_2l]; omega)).mono ?_
        rintro e w' ⟨v', rfl, hS', hb'⟩
        have HN : Hid (Sl .i32 w' v' (stg X 3) ∧ Ok wc.heap.size wc w') := ⟨hS', H.out.2.step hb'⟩
        clear hS' hb'
        go_wp2_with fail
        go_roundg (4 - 3)
        case measure => rw [HG.out]; omega
        case rel => exact ⟨3, rfl, by omega, rfl, HN.out⟩
      · go_wp2_with fail
        refine (each1_any trn_stop (HBw.out _ H.out.2.1).2.2 H.out.1 (stg_3 HI.out).1 (Nat.le_trans (stg_3 HI.out).2 (by omega))).mono ?_
        rintro e w' ⟨v', rfl, hS', hb'⟩
        have HN : Hid (Sl .i32 w' v' (stg X 4) ∧ Ok wc.heap.size wc w') := ⟨hS', H.out.2.step hb'⟩
        clear hS' hb'
        go_wp2_with fail
        go_roundg (4 - 4)
        case measure => rw [HG.out]; omega
        case rel => exact ⟨4, rfl, by omega, rfl, HN.out⟩
      · go_wp2_with fail
        go_ret
        exact ⟨_, rfl, by rw [← stg_four]; exact H.out.1, (HO.out.step H.out.2.1).1⟩
end Ma
end Go.Proofs.Ytemdmalcoemhnab

namespace Go.Proofs.Ytemdmalcoemhnab
namespace Ma
open Go.RowKit Od Pr Ha Nf

set_option maxHeartbeats 2000000 in
theorem ints15_any (v : Value) (zs : List Int) (w : World) (h : Sl .i32 w v zs) (hn : zs.length ≤ 1000000) (hz : ∀ z ∈ zs, -2147483648 ≤ z ∧ z ≤ 2147483647) :
    Calls Try.prog 11 #[v] w fun e w' => ∃ v', e = .returned v' ∧ Sn .i64 w' v' zs ∧ Below w.heap.size w w' := by
  obtain ⟨ao, cap, rfl, h⟩ := h
  have HS := hr h
  have HZ := hr hz
  clear h hz
  have HO : Hid ((w.alloc (.cells #[] 3)).ownsRow w.heap.size 3 1 (.slice (some ⟨w.heap.size, 0, none⟩) 0 0) 0 []) := World.ownsRow_made w #[] 0 (Nat.le_refl _) (by unfold maxLen; omega) rfl
  have hok := hr ((Ok.start w).alloc (o := .cells #[] 3))
  go_enter Try.func11, Try.ntmps11
  go_wp2_with fail
  go_loopg [3, 5, 9] zs.length (fun g vo _ vi wr => ∃ k : Nat, vi = .int .i64 k ∧ k ≤ zs.length ∧ g = zs.length - k ∧ Hid (wr.ownsRow w.heap.size 3 1 vo k (ivs .i64 (zs.take k)) ∧ Ok w.heap.size w wr ∧ isSome vo))
  case atStart => exact ⟨0, rfl, Nat.zero_le _, rfl, HO.out, hok.out, trivial⟩
  case round =>
    obtain ⟨k, rfl, hk, hg, H⟩ := hrel
    have HG := hr hg
    clear hg HO hok
    by_cases hlt : k < zs.length
    · obtain ⟨b, off, rfl, hb, hc⟩ := HS.out.at_ k hlt
      have hc' := (H.out.2.1.1.cell (p := ⟨b, off + k, none⟩) hb).trans hc
      have hzk := HZ.out zs[k] (List.getElem_mem hlt)
      have HT : Hid (ivs .i64 (zs.take (k + 1)) = ivs .i64 (zs.take k) ++ [.int .i64 zs[k]]) := by show _ = _; rw [List.take_succ_eq_append_getElem hlt, ivs_snoc]
      clear hc
      generalize zs[k] = z at *
      have hwz : IntKind.i64.wrap z = z := by rw [IntKind.wrap_i64]; omega
      go_wp2_with (at_builtin; refine app_i64 rfl (.tmp 13) (.tmp 16) rfl wr w.heap.size k _ _ z rfl wr.heap.size rfl rfl H.out.1 (by omega) H.out.2.1.2 (fun v' w' h1 h2 => ?_))
      have H2 : Hid (w'.ownsRow w.heap.size 3 1 v' (k + 1) (ivs .i64 (zs.take (k + 1))) ∧ Ok w.heap.size w w' ∧ isSome v') := by
        refine ⟨by rw [HT.out]; exact h1, ok_below h2 H.out.2.1, own_some h1 (Nat.succ_pos k)⟩
      clear h1 h2
      go_roundg (zs.length - (k + 1))
      case measure => rw [HG.out]; omega
      case rel => exact ⟨k + 1, by go_num, by omega, rfl, H2.out⟩
    · have e : k = zs.length := by omega
      subst e
      go_wp2_with fail
      go_ret
      refine ⟨_, rfl, (own_sl (B := w.heap.size) (e := 3) ?_).sn H.out.2.2, H.out.2.1.1⟩
      have := H.out.1
      rwa [List.take_length] at this

set_option maxRecDepth 1000000 in
theorem aw_map : mapP [65, 12290, 65313] = [97, 46, 97] := by kernel_rfl
theorem map_bd {X : List Int} (h : ∀ x ∈ X, I32 x) : (∀ y ∈ mapP X, I32 y) ∧ (mapP X).length ≤ 96 * X.length := by
  obtain ⟨h1, h2⟩ := stg_3 h
  have e : (stg X 3).map stP = mapP X := stg_four X
  rw [← e]
  refine ⟨fun y hy => ?_, by rw [List.length_map]; exact h2⟩
  obtain ⟨x, hx, rfl⟩ := List.mem_map.1 hy
  unfold stP
  by_cases e : x = 12290
  · rw [if_pos e]; exact ⟨by omega, by omega⟩
  · rw [if_neg e]; exact h1 x hx
set_option maxRecDepth 100000 in
set_option maxHeartbeats 4000000 in
theorem awake15_any {w : World} {m f b p d u s : Nat} (hM : Mp w m f b p d u s) : Calls Try.prog 8 #[.pointer (some ⟨m, 0, none⟩)] w fun e w' => e = .returned (.bool true) ∧ Below w.heap.size w w' := by
  have HM := hr hM
  have HO := hr (Ok.start w)
  have hI : ∀ x ∈ [(65 : Int), 12290, 65313], I32 x := fun x hx => by
    simp only [List.mem_cons, List.not_mem_nil, or_false] at hx
    unfold I32
    omega
  have HI := hr hI
  clear hM hI
  go_enter Try.func8, Try.ntmps8
  go_wp2_with fail
  refine (map_any (HM.out.step HO.out.alloc.1) (sl3 .i32 w 21 65 12290 65313 w.heap.size rfl).sl HI.out (by decide)).mono ?_
  rintro e w1 ⟨v1, rfl, h1, hb⟩
  rw [aw_map] at h1
  have S1 := hr h1
  replace HO := hr (HO.out.alloc.step hb)
  clear h1 hb
  go_wp2_with fail
  refine (ints15_any _ _ _ S1.out (by decide) (fun z hz => by simp only [List.mem_cons, List.not_mem_nil, or_false] at hz; omega)).mono ?_
  rintro e w2 ⟨v2, rfl, h1, hb⟩
  have S2 := hr h1.sl
  replace HO := hr (HO.out.step hb)
  clear h1 hb S1
  go_wp2_with fail
  refine (same_any _ _ _ _ _ (S2.out.step (Ok.start _).alloc.1) (sl3 .i64 w2 3 97 46 97 w2.heap.size rfl).sl (by decide)).mono ?_
  rintro e w3 ⟨rfl, hb⟩
  replace HO := hr (HO.out.alloc.step hb)
  clear hb
  rw [decide_eq_true rfl]
  go_wp2_with fail
  go_ret
  exact ⟨rfl, HO.out.1⟩
end Ma
end Go.Proofs.Ytemdmalcoemhnab
