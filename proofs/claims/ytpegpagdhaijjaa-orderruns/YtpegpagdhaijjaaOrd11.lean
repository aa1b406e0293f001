import Derived.Test.YtpegpagdhaijjaaOrd10
namespace Go.Proofs.Ytpegpagdhaijjaa
namespace Od
open Go.RowKit

/-- A code point's class. -/
def clsP (r : Int) : Int := (Uc.getV Uc.zTr Uc.bookL r).d
/-- The book. -/
def Bk (w : World) (b : Nat) : Prop := ∃ p rv, Uc.Book w b Uc.bookL p rv
theorem Bk.step {w w' : World} {b : Nat} (h : Bk w b) (hb : Below w.heap.size w w') : Bk w' b := by
  obtain ⟨p, rv, h⟩ := h
  exact ⟨p, rv, h.step hb⟩
theorem cls_any {w : World} {b : Nat} (h : Bk w b) (r : Int) : Calls Try.prog 22 #[.pointer (some ⟨b, 0, none⟩), .int .i32 r] w fun e w' => e = .returned (.int .i64 (clsP r)) ∧ Below w.heap.size w w' := by
  obtain ⟨p, rv, h⟩ := h
  exact Uc.class_any h r
theorem newbook_any (w : World) : Calls Try.prog 9 #[] w fun e w' => ∃ b, e = .returned (.pointer (some ⟨b, 0, none⟩)) ∧ Below w.heap.size w w' ∧ Bk w' b := by
  refine (Uc.new_any w).mono ?_
  rintro e w' ⟨b, p, rv, he, hb, hB⟩
  exact ⟨b, he, hb, p, rv, hB⟩
theorem book_cls : Uc.bookL.all (fun x => decide (0 ≤ x.v.d) && decide (x.v.d ≤ 255)) = true := by kernel_rfl
theorem cls_bd (r : Int) : 0 ≤ clsP r ∧ clsP r ≤ 255 := by
  have h := Uc.get_or (fun x => decide (0 ≤ x.d) && decide (x.d ≤ 255)) Uc.bookL Uc.zTr r (by decide) book_cls
  rw [Bool.and_eq_true, decide_eq_true_eq, decide_eq_true_eq] at h
  exact h

theorem byc_any (b : Nat) (w : World) : Calls Try.prog 40 #[.pointer (some ⟨b, 0, none⟩)] w fun e w' => e = .returned (.func (.func 67) #[] #[.pointer (some ⟨w.heap.size, 0, none⟩)]) ∧ w' = w.alloc (.cells #[.pointer (some ⟨b, 0, none⟩)] 23) := by
  go_enter Try.func40, Try.ntmps40
  go_wp2
  go_ret
  exact ⟨rfl, rfl⟩

set_option maxHeartbeats 2000000 in
theorem byc1_any {W : World} {b pb : Nat} (hB : Bk W b) (hx : Bx W pb (.pointer (some ⟨b, 0, none⟩)) 23) (x y : Int) :
    Calls Try.prog 67 #[.int .i32 x, .int .i32 y, .pointer (some ⟨pb, 0, none⟩)] W fun e w' => e = .returned (.int .i64 (cmpI (clsP x) (clsP y))) ∧ Below W.heap.size W w' := by
  have hok := Ok.start W
  have HD : Hid (Ok W.heap.size W W.drew ∧ Bk W.drew b ∧ Bx W.drew pb (.pointer (some ⟨b, 0, none⟩)) 23) := ⟨hok.step ((Below.refl _ _).drew), hB.step ((Below.refl _ _).drew), hx.step ((Below.refl _ _).drew)⟩
  have HC := hid (fun w r (h : Bk w b) => cls_any h r)
  have HM := hid (fun w a c => cmp_any a c w)
  have hstep : Hid (∀ A B, (Ok W.heap.size W A ∧ Bk A b ∧ Bx A pb (.pointer (some ⟨b, 0, none⟩)) 23) → Below A.heap.size A B → (Ok W.heap.size W B ∧ Bk B b ∧ Bx B pb (.pointer (some ⟨b, 0, none⟩)) 23)) := fun A B h hb => ⟨h.1.step hb, h.2.1.step hb, h.2.2.step hb⟩
  have H0 := hid hx
  clear hB hx hok
  go_enter Try.func67, Try.ntmps67
  go_wp2_with fail
  go_region_held3 (fun w' => w'.cell? ⟨pb, 0, none⟩ = some (.pointer (some ⟨b, 0, none⟩)))
    (first | exact HD.out.2.2.cell | exact H0.out.cell)
    (first | (go_at_call 22; refine (HC.out _ _ HD.out.2.1).mono ?_; rintro e w' ⟨rfl, hb'⟩; replace HD := hid (hstep.out _ _ HD.out hb'); clear hb') | (go_at_call 68; refine (HM.out _ _ _).mono ?_; rintro e w' ⟨rfl, rfl⟩))
  all_goals go_wp2_with fail
  all_goals go_ret
  all_goals exact ⟨rfl, HD.out.1.1⟩

theorem runs_any (b : Nat) (ao : Option Addr) (n cap : Nat) (w : World) : Calls Try.prog 38 #[.pointer (some ⟨b, 0, none⟩), .slice ao n cap] w fun e w' => e = .returned (.func (.func 65) #[] #[.pointer (some ⟨w.heap.size + 1, 0, none⟩), .pointer (some ⟨w.heap.size, 0, none⟩)]) ∧ w' = (w.alloc (.cells #[.pointer (some ⟨b, 0, none⟩)] 23)).alloc (.cells #[.slice ao n cap] 22) := by
  go_enter Try.func38, Try.ntmps38
  go_wp2
  go_ret
  exact ⟨rfl, rfl⟩

/-- The place behind the last run that was told. -/
def endOf (pre : List (Nat × Nat)) : Nat := (pre.getLast?.map (·.2)).getD 0
theorem endOf_snoc (pre : List (Nat × Nat)) (x : Nat × Nat) : endOf (pre ++ [x]) = x.2 := by simp [endOf]
/-- What is told next: a run of marks, with starters alone ahead of it. -/
def NextR (c : Int → Int) (l : List Int) (pre : List (Nat × Nat)) (x : Nat × Nat) : Prop :=
  endOf pre ≤ x.1 ∧ x.1 < x.2 ∧ x.2 ≤ l.length ∧ (∀ i (h : i < l.length), endOf pre ≤ i → i < x.1 → c l[i] = 0) ∧ (∀ i (h : i < l.length), x.1 ≤ i → i < x.2 → c l[i] ≠ 0) ∧ (pre = [] ∨ endOf pre < x.1)
def AllR (c : Int → Int) (l : List Int) (xs : List (Nat × Nat)) : Prop := xs = runsP c l ∧ ∀ i (h : i < l.length), endOf xs ≤ i → c l[i] = 0
/-- What the iterator needs: the book, and the runes that it has not seen. -/
structure NeR (b : Nat) (ao : Option Addr) (cap pl pb : Nat) (l : List Int) (pre : List (Nat × Nat)) (W : World) : Prop where
  book : Bk W b
  bl : Bx W pl (.slice ao l.length cap) 22
  bb : Bx W pb (.pointer (some ⟨b, 0, none⟩)) 23
  rest : ∀ i (h : i < l.length), endOf pre ≤ i → ∃ g off, ao = some ⟨g, off, none⟩ ∧ W.cell? ⟨g, off + i, none⟩ = some (.int .i32 l[i])

def toldR (x : Nat × Nat) : Array Value := #[.int .i64 (x.1 : Int), .int .i64 (x.2 : Int)]

/-- What has been told ahead of a place at which none is open. -/
def InvR (c : Int → Int) (l : List Int) (k : Nat) (pre : List (Nat × Nat)) : Prop :=
  (∀ i (h : i < l.length), endOf pre ≤ i → i < k → c l[i] = 0) ∧ endOf pre ≤ k ∧ (pre = [] ∨ endOf pre < k) ∧ (k ≤ l.length → stR c (l.take k) = (pre, none, k)) ∧ (l.length < k → pre = runsP c l)
/-- And within one. -/
def InnR (c : Int → Int) (l : List Int) (k t : Nat) (pre : List (Nat × Nat)) : Prop :=
  (∀ i (h : i < l.length), k ≤ i → i < t → c l[i] ≠ 0) ∧ stR c (l.take t) = (pre, if k < t then some k else none, t)
theorem InvR.start (c : Int → Int) (l : List Int) : InvR c l 0 [] := ⟨fun i h h1 h2 => by omega, Nat.le_refl _, .inl rfl, fun _ => rfl, fun h => by omega⟩
theorem InvR.inn {c : Int → Int} {l : List Int} {k : Nat} {pre : List (Nat × Nat)} (h : InvR c l k pre) (hk : k ≤ l.length) : InnR c l k k pre := ⟨fun i h h1 h2 => by omega, by rw [h.2.2.2.1 hk, if_neg (by omega)]⟩
theorem InnR.mark {c : Int → Int} {l : List Int} {k t : Nat} {pre : List (Nat × Nat)} (h : InnR c l k t pre) (hkt : k ≤ t) (ht : t < l.length) (hc : c l[t] ≠ 0) : InnR c l k (t + 1) pre := by
  refine ⟨fun i hi h1 h2 => ?_, ?_⟩
  · rcases Nat.lt_or_ge i t with h3 | h3
    · exact h.1 i hi h1 h3
    · have : i = t := by omega
      subst this; exact hc
  · rw [stR_take c l t ht, h.2, stepR, if_neg hc]
    have h3 : k < t + 1 := by omega
    by_cases hkt' : k < t
    · simp [hkt', h3]
    · have : k = t := by omega
      simp [this]
theorem InnR.next {c : Int → Int} {l : List Int} {k t : Nat} {pre : List (Nat × Nat)} (hI : InvR c l k pre) (h : InnR c l k t pre) (hkt : k < t) (ht : t ≤ l.length) : NextR c l pre (k, t) :=
  ⟨hI.2.1, hkt, ht, fun i hi h1 h2 => hI.1 i hi h1 h2, fun i hi h1 h2 => h.1 i hi h1 h2, hI.2.2.1⟩
theorem InnR.told {c : Int → Int} {l : List Int} {k t : Nat} {pre : List (Nat × Nat)} (h : InnR c l k t pre) (hkt : k < t) (ht : t ≤ l.length) (he : ∀ (hh : t < l.length), c l[t] = 0) : InvR c l (t + 1) (pre ++ [(k, t)]) := by
  refine ⟨fun i hi h1 h2 => ?_, by rw [endOf_snoc]; exact Nat.le_succ t, .inr (by rw [endOf_snoc]; exact Nat.lt_succ_self t), fun h1 => ?_, fun h1 => ?_⟩
  · rw [endOf_snoc] at h1
    have h1' : t ≤ i := h1
    have : i = t := by omega
    subst this; exact he hi
  · rw [stR_take c l t (by omega), h.2, if_pos hkt, stepR, if_pos (he (by omega))]
  · have : t = l.length := by omega
    subst this
    have h2 := h.2
    rw [List.take_length, if_pos hkt] at h2
    rw [runsP, h2]; rfl
theorem InnR.none_ {c : Int → Int} {l : List Int} {k : Nat} {pre : List (Nat × Nat)} (hI : InvR c l k pre) (hk : k < l.length) (he : c l[k] = 0) : InvR c l (k + 1) pre := by
  refine ⟨fun i hi h1 h2 => ?_, by have := hI.2.1; omega, ?_, fun h1 => ?_, fun h1 => by omega⟩
  · rcases Nat.lt_or_ge i k with h3 | h3
    · exact hI.1 i hi h1 h3
    · have : i = k := by omega
      subst this; exact he
  · rcases hI.2.2.1 with h | h
    · exact .inl h
    · exact .inr (by omega)
  · rw [stR_take c l k hk, hI.2.2.2.1 (by omega), stepR, if_pos he]
theorem InvR.all {c : Int → Int} {l : List Int} {k : Nat} {pre : List (Nat × Nat)} (h : InvR c l k pre) (hk : l.length ≤ k) : AllR c l pre := by
  refine ⟨?_, fun i hi h1 => h.1 i hi h1 (by omega)⟩
  rcases Nat.lt_or_ge l.length k with h1 | h1
  · exact h.2.2.2.2 h1
  · have : k = l.length := by omega
    subst this
    have h2 := h.2.2.2.1 (Nat.le_refl _)
    rw [List.take_length] at h2
    rw [runsP, h2]; rfl

attribute [local go_sem] Oper.semAt_some
set_option maxRecDepth 100000 in
set_option maxHeartbeats 4000000 in
theorem runs1_tells (n b : Nat) (ao : Option Addr) (cap pl pb : Nat) (hn : 1 ≤ n) (l : List Int) (hl : l.length ≤ 1000000) (w : World) :
    Tells2 Fence.wide n Try.prog 65 #[.pointer (some ⟨pl, 0, none⟩), .pointer (some ⟨pb, 0, none⟩)] toldR (NeR b ao cap pl pb l) (NextR clsP l) (AllR clsP l) w := by
  intro y J Jx W hW hJb hJN hY h0
  have HJb := hid hJb
  have HJN := hid hJN
  have HY := hid hY
  have H0 := hid h0
  have HCl := hid (fun w r (h : Bk w b) => cls_any h r)
  clear hJb hJN hY h0 hW
  refine callsIn_of_wp Try.func65 rfl trivial ?_ rfl
  simp only [Try.ntmps65, List.size_toArray, List.length_cons, List.length_nil, Nat.reduceAdd, Nat.reduceSub, Array.replicate_succ, Array.replicate_zero, List.push_toArray, List.append_toArray, List.nil_append, List.cons_append]
  gi_wp2
  gi_loopw [4] (fun i wr => ∃ (k : Nat) (pre : List (Nat × Nat)), k ≤ l.length + 1 ∧ i = .int .i64 k ∧ Hid (J pre wr ∧ InvR clsP l k pre)) (fun i _ => l.length + 1 - (intOf i).toNat)
  case atStart => exact ⟨0, [], Nat.zero_le _, rfl, H0.out, InvR.start _ _⟩
  case round =>
    obtain ⟨k, pre, hk, rfl, H⟩ := hrel
    clear H0
    by_cases hlt : k < l.length
    · have hNe := HJN.out _ _ H.out.1
      have c1 := hNe.bl.cell
      have hltz : (k : Int) < (l.length : Int) := by omega
      clear hNe
      gi_wp2_with fail
      clear c1
      refine wpIn_wide.2 ?_
      go_loopg [5] (l.length - k) (fun gg vt wt => ∃ t : Nat, vt = .int .i64 t ∧ k ≤ t ∧ t ≤ l.length ∧ gg = l.length - t ∧ Hid (J pre wt ∧ InnR clsP l k t pre))
      case atStart => exact ⟨k, rfl, Nat.le_refl _, by omega, rfl, H.out.1, H.out.2.inn (by omega)⟩
      case round =>
        obtain ⟨t, rfl, hkt, htl, hgg, H1⟩ := hrel
        have HG := hid hgg
        clear hgg
        have HI := hid H.out.2
        clear H
        by_cases hlt2 : t < l.length
        · have hNe := HJN.out _ _ H1.out.1
          obtain ⟨g, off, rfl, ct⟩ := hNe.rest t hlt2 (by have := HI.out.2.1; omega)
          have c1 := hNe.bl.cell
          have c2 := hNe.bb.cell
          have HB : Hid (Bk wr b) := hNe.book
          clear hNe
          have HJ : Hid (J pre wr) := H1.out.1
          have HD : Hid (J pre wr.drew) := HJb.out _ _ _ HJ.out ((Below.refl _ _).drew)
          have HCt : Hid (∀ A, J pre A → A.cell? ⟨g, off + t, none⟩ = some (.int .i32 l[t])) := fun A hA => by
            obtain ⟨g', off', e, ct'⟩ := (HJN.out _ _ hA).rest t hlt2 (by have := HI.out.2.1; omega)
            simp at e
            obtain ⟨rfl, rfl⟩ := e
            exact ct'
          have hm : Hid (clsP l[t] ≠ 0 → InnR clsP l k (t + 1) pre) := fun hc => H1.out.2.mark hkt hlt2 hc
          have hz : Hid (clsP l[t] = 0 → ∀ (hh : t < l.length), clsP l[t] = 0) := fun h _ => h
          have HIn := hid H1.out.2
          have hltz2 : (t : Int) < (l.length : Int) := by omega
          clear H1
          have HCr := hid (fun w h => HCl.out w l[t] h)
          generalize hr : l[t] = r at *
          have HR := hid hr
          clear hr
          have cls0 := cls_bd r
          by_cases hc : clsP r = 0
          · have HZ := hid hc
            rw [hc] at HCr
            clear hc cls0
            go_wp2_with fail
            go_region_held3 (fun w' => w'.cell? ⟨pl, 0, none⟩ = some (.slice (some ⟨g, off, none⟩) l.length cap) ∧ w'.cell? ⟨pb, 0, none⟩ = some (.pointer (some ⟨b, 0, none⟩)) ∧ w'.cell? ⟨g, off + t, none⟩ = some (.int .i32 r))
              (first | exact ⟨(HJN.out _ _ HD.out).bl.cell, (HJN.out _ _ HD.out).bb.cell, HCt.out _ HD.out⟩ | exact ⟨c1, c2, ct⟩)
              (first | (go_at_call 22; refine (HCr.out _ (HJN.out _ _ HD.out).book).mono ?_; rintro e w' ⟨rfl, hb'⟩; replace HD := hid (HJb.out _ _ _ HD.out hb'); clear hb'))
            go_wp2_with fail
            have HE : Hid (∀ (hh : t < l.length), clsP l[t] = 0) := fun hh => by rw [HR.out]; exact HZ.out
            by_cases hkt' : k < t
            · have hR := HY.out pre (k, t) w' HD.out (InnR.next HI.out HIn.out hkt' htl)
              obtain ⟨fn, tmps, assign, body, hy, hRo⟩ := hR
              unfold toldR at hy
              dsimp only at hy
              have hktz : (k : Int) < (t : Int) := by omega
              have HN := hid (InnR.told HIn.out hkt' htl HE.out)
              gi_wp2_with fail
              refine hRo.mono ?_
              rintro e W3 (⟨rfl, hJ3⟩ | ⟨rfl, hJx⟩)
              · have H3 := hid hJ3
                clear hJ3
                gi_wp2_with fail
                go_roundw
                case rel => exact ⟨t + 1, _, by omega, by go_num, H3.out, HN.out⟩
                case measure => simp [intOf]; omega
              · have H3 := hid hJx
                clear hJx
                gi_wp2_with fail
                (try simp only [Exit.inBlock, Exit.then])
                refine bodyPost_ret (results_none rfl _ _ _) rfl ?_
                exact ⟨⟨_, rfl⟩, .inr ⟨_, H3.out⟩⟩
            · have hktz : ¬ (k : Int) < (t : Int) := by omega
              have hktd : decide ((k : Int) < (t : Int)) = false := decide_eq_false hktz
              have HN : Hid (InvR clsP l (t + 1) pre) := by
                have : k = t := by omega
                subst this
                exact InnR.none_ HI.out hlt (HE.out hlt)
              gi_wp2_with fail
              refine ⟨fun _ _ => trivial, ?_⟩
              gi_wp2_with fail
              go_roundw
              case rel => exact ⟨t + 1, _, by omega, by go_num, HD.out, HN.out⟩
              case measure => simp [intOf]; omega
          · have HZ := hid (hm.out hc)
            have hcz : (clsP r != 0) = true := by simpa using hc
            have hcz2 : ¬ clsP r = 0 := hc
            generalize clsP r = cr at *
            go_wp2_with fail
            go_region_held3 (fun w' => w'.cell? ⟨pl, 0, none⟩ = some (.slice (some ⟨g, off, none⟩) l.length cap) ∧ w'.cell? ⟨pb, 0, none⟩ = some (.pointer (some ⟨b, 0, none⟩)) ∧ w'.cell? ⟨g, off + t, none⟩ = some (.int .i32 r))
              (first | exact ⟨(HJN.out _ _ HD.out).bl.cell, (HJN.out _ _ HD.out).bb.cell, HCt.out _ HD.out⟩ | exact ⟨c1, c2, ct⟩)
              (first | (go_at_call 22; refine (HCr.out _ (HJN.out _ _ HD.out).book).mono ?_; rintro e w' ⟨rfl, hb'⟩; replace HD := hid (HJb.out _ _ _ HD.out hb'); clear hb'))
            go_wp2_with fail
            go_roundg (l.length - (t + 1))
            case measure => rw [HG.out]; omega
            case rel => exact ⟨t + 1, by go_num, by omega, by omega, rfl, HD.out, HZ.out⟩
        · have hNe := HJN.out _ _ H1.out.1
          have c1 := hNe.bl.cell
          have c1d : wr.drew.cell? ⟨pl, 0, none⟩ = some (.slice ao l.length cap) := c1
          clear hNe
          have HD : Hid (J pre wr.drew) := HJb.out _ _ _ H1.out.1 ((Below.refl _ _).drew)
          have HIn := hid H1.out.2
          clear H1
          have HE : Hid (∀ (hh : t < l.length), clsP l[t] = 0) := fun hh => absurd hh hlt2
          have z1 : ¬ (t : Int) < (l.length : Int) := by omega
          have z2 : decide ((t : Int) < (l.length : Int)) = false := decide_eq_false z1
          go_wp2_with fail
          go_region
          go_wp2_with fail
          by_cases hkt' : k < t
          · have hR := HY.out pre (k, t) wr.drew HD.out (InnR.next HI.out HIn.out hkt' htl)
            obtain ⟨fn, tmps, assign, body, hy, hRo⟩ := hR
            unfold toldR at hy
            dsimp only at hy
            have hktz : (k : Int) < (t : Int) := by omega
            have HN := hid (InnR.told HIn.out hkt' htl HE.out)
            gi_wp2_with fail
            refine hRo.mono ?_
            rintro e W3 (⟨rfl, hJ3⟩ | ⟨rfl, hJx⟩)
            · have H3 := hid hJ3
              clear hJ3
              gi_wp2_with fail
              go_roundw
              case rel => exact ⟨t + 1, _, by omega, by go_num, H3.out, HN.out⟩
              case measure => simp [intOf]; omega
            · have H3 := hid hJx
              clear hJx
              gi_wp2_with fail
              (try simp only [Exit.inBlock, Exit.then])
              refine bodyPost_ret (results_none rfl _ _ _) rfl ?_
              exact ⟨⟨_, rfl⟩, .inr ⟨_, H3.out⟩⟩
          · exfalso; omega
    · have hNe := HJN.out _ _ H.out.1
      have c1 := hNe.bl.cell
      have z1 : ¬ (k : Int) < (l.length : Int) := by omega
      clear hNe
      have HA := hid (H.out.2.all (by omega))
      gi_wp2_with fail
      go_end0
      exact ⟨⟨_, rfl⟩, .inl ⟨_, HA.out, H.out.1⟩⟩
end Od
end Go.Proofs.Ytpegpagdhaijjaa
