import Derived.Test.YtclcmkklonnalaaGreatNfc10x13
import Derived.Test.YtclcmkklonnalaaGreatUtf10x14
namespace Go.Proofs.YtclcmkklonnalaaGreat
namespace Nf
open Go.RowKit Od Pr Ha

set_option maxRecDepth 1000000 in
theorem rows_sc : allP.all (fun x => Ut.scB x.1 && Ut.scB x.2.1 && Ut.scB x.2.2) = true := by kernel_rfl
theorem sc_of {r : Int} (h : 0 ≤ r ∧ r < 55296) : Ut.scB r = true := decide_eq_true (.inl h)
theorem dn_sc (r : Int) : Ut.scB (dnP r).1 = true ∧ Ut.scB (dnP r).2.1 = true := by
  have h0 : Ut.scB 0 = true := rfl
  by_cases h : ∃ x ∈ allP, x.1 = r
  · obtain ⟨x, hx, rfl⟩ := h
    have := List.all_eq_true.1 rows_sc x hx
    rw [Bool.and_eq_true, Bool.and_eq_true] at this
    have e : dnP x.1 = valP x := rd_of_mem allP all_dist x hx
    rw [e]
    unfold valP
    split
    · exact ⟨this.1.2, by first | exact this.2 | exact h0⟩
    · exact ⟨this.1.2, this.2⟩
  · rw [dn_out r (fun x hx e => h ⟨x, hx, e⟩)]
    exact ⟨h0, h0⟩
theorem ap_sc : ∀ (n : Nat) (r : Int), Ut.scB r = true → ∀ y ∈ apF n r, Ut.scB y = true
  | 0, r, h, y, hy => by simp [apF] at hy; subst hy; exact h
  | n + 1, r, h, y, hy => by
    simp only [apF] at hy
    split at hy
    · rename_i hs
      have := sylL_bd hs y hy
      exact sc_of (by omega)
    · split at hy
      · exact ap_sc n _ (dn_sc r).1 y hy
      · split at hy
        · rcases List.mem_append.1 hy with hy | hy
          · exact ap_sc n _ (dn_sc r).1 y hy
          · exact ap_sc n _ (dn_sc r).2 y hy
        · simp at hy; subst hy; exact h
theorem mk_sc {a b : Int} (h : mkB a b = true) : Ut.scB (mkI a b) = true := by
  unfold mkI
  split
  · rename_i h1
    unfold u2 at h1
    unfold u1
    cases hu : upF allP (a, b) with
    | none => rw [hu] at h1; cases h1
    | some z =>
      obtain ⟨R, hR, _, _, rfl⟩ := up_mem allP _ z hu
      have := List.all_eq_true.1 rows_sc R hR
      rw [Bool.and_eq_true, Bool.and_eq_true] at this
      exact this.1.1
  · split
    · have := syl_bd (lv_parts a b ‹_›).1
      exact sc_of (by omega)
    · have h3 : otB a b = true := by
        unfold mkB at h
        cases hu : u2 a b <;> cases hl : lvB a b <;> simp_all
      have := syl_bd (ot_parts a b h3).2.2.1
      exact sc_of (by omega)
theorem sc_fold : ∀ (l : List Int) (s : CS), (∀ x ∈ l, Ut.scB x = true) → (∀ y ∈ outC s, Ut.scB y = true) → ∀ y ∈ outC (l.foldl (stepC clsP) s), Ut.scB y = true
  | [], _, _, h => h
  | r :: l, s, ha, h => by
    rw [List.foldl_cons]
    refine sc_fold l _ (fun x hx => ha x (by simp [hx])) ?_
    by_cases ht : tryC clsP s r = true
    · obtain ⟨x, e, hm⟩ := try_some ht
      obtain ⟨A, o, M⟩ := s
      simp only at e
      subst e
      rw [step_join ht]
      intro y hy
      by_cases e : y = mkI x r
      · rw [e]; exact mk_sc hm
      · refine h y ?_
        simp [outC] at hy ⊢
        rcases hy with hy | hy | hy
        · exact .inl hy
        · exact (e hy).elim
        · exact .inr (.inr hy)
    · rw [outC_no clsP s r (by simpa using ht)]
      intro y hy
      rcases List.mem_append.1 hy with hy | hy
      · exact h y hy
      · simp at hy; subst hy; exact ha y (by simp)
theorem nfc_sc (l : List Int) (h : l.all Ut.scB = true) : (nfcP clsP l).all Ut.scB = true := by
  refine List.all_eq_true.2 (sc_fold _ _ (fun x hx => ?_) (fun y hy => by simp [outC] at hy))
  have := srt_mem clsP _ x hx
  obtain ⟨y, hy, h2⟩ := List.mem_flatMap.1 this
  exact ap_sc 6 y (List.all_eq_true.1 h y hy) x h2
theorem sc_I32 {l : List Int} (h : l.all Ut.scB = true) : ∀ y ∈ l, I32 y := fun y hy => by
  have := Ut.sc_range l h y hy
  exact ⟨this.1, this.2⟩

theorem ownF_sl {k : IntKind} {w : World} {B : Nat} {e : TypeId} {v : Value} {l : List Int} (h : w.ownsRowF B e 1 v l.length (Ut.ivs k l)) : Od.Sl k w v l := by
  have h0 := h
  rcases h.2 with ⟨h1, h2⟩ | ⟨g, cap, cur, fz, hv, h2, h3, h4, h5, h6, h7⟩
  · exact ⟨none, 0, by rw [h1, h2], by omega, fun _ => ⟨by omega, rfl⟩, fun j hj => by omega⟩
  · refine ⟨some ⟨g, 0, none⟩, cap, hv, h5, fun e => (by cases e), fun j hj => ⟨g, 0, rfl, (Array.getElem?_eq_some_iff.1 h3).1, ?_⟩⟩
    have := h0.cells (g := g) (by rw [hv]; rfl) j (.int k l[j]) (by simp [Ut.ivs, hj])
    unfold Addr.add at this
    by_cases h0 : j = 0
    · subst h0; simpa using this
    · rw [if_neg h0] at this; simpa using this
theorem some_of {w : World} {B n size : Nat} {e : TypeId} {v : Value} {xs : List Value} (h : w.ownsRowF B e size v n xs) (hv : v ≠ .slice none 0 0) : isSome v := by
  rcases h.2 with ⟨h1, _⟩ | ⟨g, cap, cur, fz, rfl, _⟩
  · exact (hv h1).elim
  · trivial
theorem od_ut {k : IntKind} {w : World} {v : Value} {l : List Int} (h : Od.Sl k w v l) : Ut.Sl k w v l := by
  obtain ⟨ao, cap, rfl, h⟩ := h
  cases l with
  | nil => exact .inl ⟨rfl, ao, cap, rfl⟩
  | cons x l =>
    obtain ⟨b, off, rfl, hb, _⟩ := h.at_ 0 (by simp)
    refine .inr ⟨b, off, cap, rfl, hb, fun j hj => ?_⟩
    obtain ⟨b', off', e, _, hc⟩ := h.at_ j hj
    have := Option.some.inj e
    injection this with a1 a2 _
    subst a1
    subst a2
    exact hc

set_option maxRecDepth 100000 in
set_option maxHeartbeats 2000000 in
theorem text10_any {w : World} {f b p d u s : Nat} (hF : Fm w f b p d u s) (t : ByteArray) (ht : t.size ≤ 1000) :
    Calls Tryz.prog 17 #[.pointer (some ⟨f, 0, none⟩), .string t] w fun e w' => (0 ≤ Ut.faultL t.data.toList ∧ e = .returned (.tuple #[.string ⟨#[]⟩, .bool false]) ∨ Ut.faultL t.data.toList < 0 ∧ e = .returned (.tuple #[.string ⟨(Ut.textL (nfcP clsP (Ut.runesL t.data.toList))).toArray⟩, .bool true])) ∧ Below w.heap.size w w' := by
  have HF := hid hF
  have HR := hid (Ut.runes_own t w (by omega))
  have HRb : Hid (Ut.faultL t.data.toList < 0 → (Ut.runesL t.data.toList).all Ut.scB = true ∧ (Ut.runesL t.data.toList).length ≤ 1000) := fun h => by
    obtain ⟨_, r2, r3⟩ := Ut.runesL_back t.data.toList h
    have e : t.data.toList.length = t.size := by rw [Array.length_toList]; rfl
    exact ⟨r2, by omega⟩
  generalize Ut.faultL t.data.toList = fl at *
  generalize Ut.runesL t.data.toList = rl at *
  clear hF
  go_enter Tryz.func17, Tryz.ntmps17
  go_wp2_with fail
  refine HR.out.mono ?_
  rintro e w1 ⟨h1, hb1⟩
  have HB1 := hid hb1
  clear hb1
  rcases h1 with ⟨hf, rfl⟩ | ⟨hf, v, B, rfl, hown⟩
  · go_wp2_with fail
    go_ret2
    exact ⟨.inl ⟨hf, rfl⟩, HB1.out⟩
  · obtain ⟨r2, r3⟩ := HRb.out hf
    have HS := hid (ownF_sl hown)
    have HN := hid (nfc_any (HF.out.step HB1.out) HS.out (sc_I32 r2) (by omega))
    have hal := nfc_sc rl r2
    have hln := (nfc_I32 rl (sc_I32 r2)).2
    have HT : Hid (∀ (W : World) (v : Value), Od.Sl .i32 W v (nfcP clsP rl) → Calls Tryz.prog 42 #[v] W fun e w' => e = .returned (.tuple #[.string ⟨(Ut.textL (nfcP clsP rl)).toArray⟩, .bool true]) ∧ Below W.heap.size W w') := fun W v h => by
      have := Ut.text_any v _ W (od_ut h) (by omega)
      unfold Ut.textV at this
      rw [hal] at this
      exact this
    have HFl := hid hf
    clear hown r2 r3 hal hln hf
    go_wp2_with fail
    refine HN.out.mono ?_
    rintro e w2 ⟨v2, rfl, h2, hb2⟩
    have H2 := hid (And.intro h2 (HB1.out.trans (hb2.mono HB1.out.size)))
    clear h2 hb2
    go_wp2_with fail
    refine (HT.out w2 v2 H2.out.1).mono ?_
    rintro e w3 ⟨rfl, hb3⟩
    have HB3 := hid (H2.out.2.trans (hb3.mono H2.out.2.size))
    clear hb3
    go_wp2_with fail
    go_ret2
    exact ⟨.inr ⟨HFl.out, rfl⟩, HB3.out⟩

set_option maxHeartbeats 1000000 in
theorem new_nil1 (w : World) (v : Value) : Calls Tryz.prog 14 #[.pointer none, v] w fun e w' => e = .returned (.pointer none) ∧ w' = w := by
  go_enter Tryz.func14, Tryz.ntmps14
  go_wp2_with fail
  go_ret
  exact ⟨rfl, rfl⟩
set_option maxHeartbeats 1000000 in
theorem new_nil2 (w : World) (b : Nat) : Calls Tryz.prog 14 #[.pointer (some ⟨b, 0, none⟩), .pointer none] w fun e w' => e = .returned (.pointer none) ∧ w' = w := by
  go_enter Tryz.func14, Tryz.ntmps14
  go_wp2_with fail
  go_ret
  exact ⟨rfl, rfl⟩
end Nf
end Go.Proofs.YtclcmkklonnalaaGreat
