import Derived.Test.YteimhepmcjdbpaaGreatDoorUtf6
namespace Go.Proofs.YteimhepmcjdbpaaGreatDoor
open Go.RowKit

/-- Does a first byte belong to a row? -/
def mB (b k : Nat) : Bool := decide ((rowT k).1 ≤ (b : Int)) && decide ((b : Int) ≤ (rowT k).2.1)
theorem mB_all : ∀ b : Fin 256, ∀ k : Fin 9, mB b.1 k.1 = true → (rowB b.1).1 = (rowT k.1).2.2.2.2 ∧ ((rowB b.1).2.1 : Int) = (rowT k.1).2.2.1 ∧ ((rowB b.1).2.2 : Int) = (rowT k.1).2.2.2.1 := by decide +kernel
theorem mB_none : ∀ b : Fin 256, (∀ k : Fin 9, mB b.1 k.1 = false) → (rowB b.1).1 = 0 := by decide +kernel
theorem x4_all : ∀ k : Fin 9, 1 ≤ (rowT k.1).2.2.2.2 ∧ (rowT k.1).2.2.2.2 ≤ 4 := by decide +kernel

theorem fitX_fit (s : ByteArray) (h0 : 0 < s.size) (k : Nat) (hk : k < 9) (hm : mB (bt s.data.toList 0) k = true) :
    (∀ j, j < fit s.data.toList → fitX s (rowT k).1 (rowT k).2.1 (rowT k).2.2.1 (rowT k).2.2.2.1 (rowT k).2.2.2.2 j) ∧ ¬ fitX s (rowT k).1 (rowT k).2.1 (rowT k).2.2.1 (rowT k).2.2.2.1 (rowT k).2.2.2.2 (fit s.data.toList) := by
  obtain ⟨e1, e2, e3⟩ := mB_all ⟨bt s.data.toList 0, bt_lt _ _⟩ ⟨k, hk⟩ hm
  have hx4 := x4_all ⟨k, hk⟩
  simp only at e1 e2 e3 hx4
  obtain ⟨f1, f4, fg, fn⟩ := fit_spec s.data.toList
  have eq : ∀ j, 1 ≤ j → (fitX s (rowT k).1 (rowT k).2.1 (rowT k).2.2.1 (rowT k).2.2.2.1 (rowT k).2.2.2.2 j ↔ goOn s.data.toList j) := by
    intro j hj
    unfold fitX goOn
    rw [len_size, e1, if_neg (show ¬ j = 0 by omega), if_neg (show ¬ j = 0 by omega)]
    by_cases hj1 : j = 1
    · rw [if_pos hj1, if_pos hj1, if_pos hj1, if_pos hj1]; omega
    · rw [if_neg hj1, if_neg hj1, if_neg hj1, if_neg hj1]; omega
  refine ⟨fun j hj => ?_, fun h => fn ((eq _ f1).1 h)⟩
  by_cases hj0 : j = 0
  · subst hj0
    unfold mB at hm
    simp only [Bool.and_eq_true, decide_eq_true_eq] at hm
    unfold fitX
    rw [if_pos rfl, if_pos rfl]
    exact ⟨h0, by omega, hm.1, hm.2⟩
  · exact (eq j (by omega)).2 (fg j (by omega) hj)

theorem fitX_zero (s : ByteArray) (k : Nat) (hm : mB (bt s.data.toList 0) k = false) :
    ¬ fitX s (rowT k).1 (rowT k).2.1 (rowT k).2.2.1 (rowT k).2.2.2.1 (rowT k).2.2.2.2 0 := by
  intro h
  unfold fitX at h
  rw [if_pos rfl, if_pos rfl] at h
  unfold mB at hm
  rw [Bool.and_eq_false_iff] at hm
  rcases hm with hm | hm
  · exact of_decide_eq_false hm h.2.2.1
  · exact of_decide_eq_false hm h.2.2.2

/-- What the reference tells of the bytes that begin a text. -/
def gotV (l : List UInt8) : Value := .agg #[.int .i64 (decR l), .int .i64 (decN l), .bool (okL l)]

theorem cell_row {w : World} {g : Nat} {c : Array Value} {t : TypeId} (h : w.heap[g]? = some (.cells c t)) (j : Nat) : w.cell? ⟨g, j, none⟩ = c[j]? := cell_of_row w g j c t (0, 0) h
theorem frozen_row {w : World} {g : Nat} {c : Array Value} {t : TypeId} (h : w.heap[g]? = some (.cells c t)) (j : Nat) : w.frozen? ⟨g, j, none⟩ = false := by
  simp [World.frozen?, h]

set_option maxRecDepth 100000 in
set_option maxHeartbeats 4000000 in
theorem rdec_any (s : ByteArray) (w : World) (hs : s.size ≤ maxLen) :
    Calls Tryz.prog 70 #[.string s] w fun e w' => e = .returned (gotV s.data.toList) ∧ Below w.heap.size w w' := by
  by_cases h0 : 0 < s.size
  · have hne : s.data.toList ≠ [] := by have := drop_ne s 0 h0; rwa [List.drop_zero] at this
    have hE : Hid (s.toList.isEmpty = false) := by
      show _ = _; rw [ByteArray.toList_eq]; cases h : s.data.toList with | nil => exact absurd h hne | cons a b => rfl
    have hE' := hE.out
    obtain ⟨f1, f4, _, _⟩ := fit_spec s.data.toList
    have hfl := fit_le _ hne
    rw [len_size] at hfl
    have HN : Hid (decN s.data.toList = fit s.data.toList) := by show _ = _; unfold decN; rw [if_neg hne]
    have HS : Hid (s.size ≤ maxLen) := hs
    unfold maxLen at hs
    clear hne
    go_enter Tryz.func70, Tryz.ntmps70
    go_wp2
    go_loopw [3, 4] (fun b i wr => ∃ k n : Nat, k ≤ 9 ∧ i = .int .i64 k ∧ b = .int .i64 n ∧ wr.heap[w.heap.size]? = some (.cells #[.int .i64 0, .int .i64 0, .bool false] 101) ∧ Ok w.heap.size w wr ∧ 1 ≤ n ∧ n ≤ 4 ∧ Hid ((∀ j, j < k → mB (bt s.data.toList 0) j = false) ∧ n = 1 ∨ n = fit s.data.toList ∧ okL s.data.toList = false)) (fun _ i _ => 9 - (intOf i).toNat)
    case atStart => 
      refine ⟨0, 1, by omega, rfl, rfl, by simpa using heap_alloc_last w _, ⟨(Below.refl _ _).alloc (Nat.le_refl _) _, by simp⟩, by omega, by omega, .inl ⟨fun j hj => by omega, rfl⟩⟩
    case round =>
      obtain ⟨k, n, hk, rfl, rfl, hg, hok, hn1, hn4, hin⟩ := hrel
      by_cases hlt : k < 9
      · have x4 := x4_all ⟨k, hlt⟩
        simp only at x4
        have HR : Hid (∀ w, Calls Tryz.prog 90 #[.int .i64 k] w fun e w' => e = .returned (.agg #[.int .i64 (rowT k).1, .int .i64 (rowT k).2.1, .int .i64 (rowT k).2.2.1, .int .i64 (rowT k).2.2.2.1, .int .i64 (rowT k).2.2.2.2]) ∧ Below w.heap.size w w') := fun w => rrow_any k hlt w
        by_cases hm : mB (bt s.data.toList 0) k = true
        · obtain ⟨FX1, FX2⟩ := fitX_fit s h0 k hlt hm
          have HF : Hid (∀ w, Calls Tryz.prog 91 #[.string s, .agg #[.int .i64 (rowT k).1, .int .i64 (rowT k).2.1, .int .i64 (rowT k).2.2.1, .int .i64 (rowT k).2.2.2.1, .int .i64 (rowT k).2.2.2.2]] w fun e w' => e = .returned (.int .i64 (fit s.data.toList)) ∧ Below w.heap.size w w') := fun w => fits_any s _ _ _ _ _ _ w HS.out x4.2 FX1 FX2
          have hsz := (mB_all ⟨bt s.data.toList 0, bt_lt _ _⟩ ⟨k, hlt⟩ hm).1
          simp only at hsz
          clear FX1 FX2
          by_cases hof : (rowT k).2.2.2.2 = fit s.data.toList
          · have hokl : okL s.data.toList = true := (okL_iff _).2 ⟨by intro e; rw [e] at hsz; simp [ByteArray.toList_eq, e] at hE', by rw [hsz, hof]⟩
            obtain ⟨v1, v2⟩ := valS_eq s hokl
            have HV : Hid (∀ w, Calls Tryz.prog 92 #[.string (s.extract 0 (fit s.data.toList))] w fun e w' => e = .returned (.int .i64 (valL s.data.toList)) ∧ w' = w) := fun w => by
              have := value_any (s.extract 0 (fit s.data.toList)) w (by omega) (by omega)
              rw [v1] at this; exact this
            have HO : Hid (okL s.data.toList = true) := hokl
            have HV2 : Hid (decR s.data.toList = valL s.data.toList) := by show _ = _; unfold decR; rw [if_pos hokl]
            rw [hof] at HR HF x4
            clear hokl v1 v2 hsz hm hin hof
            generalize (rowT k).1 = x0 at *
            generalize (rowT k).2.1 = x1 at *
            generalize (rowT k).2.2.1 = x2 at *
            generalize (rowT k).2.2.2.1 = x3 at *
            go_wp2_with fail
            refine (HR.out _).mono ?_
            rintro e w1 ⟨rfl, hb1⟩
            have hg1 := (hb1.block _ (by have := (Array.getElem?_eq_some_iff.1 hg).1; omega)).trans hg
            replace hok := hok.step hb1
            have hlt1 := (Array.getElem?_eq_some_iff.1 hg1).1
            clear hg hb1
            go_wp2_with fail
            refine (HF.out _).mono ?_
            rintro e w2 ⟨rfl, hb2⟩
            have c4 : w2.cell? ⟨w1.heap.size, 4, none⟩ = some (.int .i64 (fit s.data.toList)) := (hb2.cell (p := ⟨w1.heap.size, 4, none⟩) (by simp)).trans (by simp)
            have hg2 := (hb2.block w.heap.size (by simp; omega)).trans ((Below.heap_alloc w1 _ w.heap.size hlt1).trans hg1)
            have hok2 := (hok.step ((Below.refl _ _).alloc (Nat.le_refl _) _)).step hb2
            have hc0 : w2.cell? ⟨w.heap.size, 0, none⟩ = some (.int .i64 0) := cell_row hg2 0
            have hc1 : w2.cell? ⟨w.heap.size, 1, none⟩ = some (.int .i64 0) := cell_row hg2 1
            have hc2 : w2.cell? ⟨w.heap.size, 2, none⟩ = some (.bool false) := cell_row hg2 2
            have hz0 := frozen_row hg2 0
            have hz1 := frozen_row hg2 1
            have hz2 := frozen_row hg2 2
            clear hg2 hb2 hg1 hok hlt1
            go_wp2_with (first | (go_at_call 92; refine (HV.out _).mono ?_; rintro e w' ⟨rfl, rfl⟩))
            refine bodyPost_ret (v := .agg #[.int .i64 (valL s.data.toList), .int .i64 (fit s.data.toList), .bool true]) (by simp [results, Tryz.results70, go_sem, hc0, hc1, hc2]) rfl ⟨by unfold gotV; rw [HV2.out, HN.out, HO.out], ((hok2.1.setCell (Nat.le_refl _) _).setCell (Nat.le_refl _) _).setCell (Nat.le_refl _) _⟩
          · have hokl : okL s.data.toList = false := by
              cases e : okL s.data.toList with
              | false => rfl
              | true => exact absurd ((okL_iff _).1 e).2 (by rw [hsz]; exact hof)
            have hne4 : ((fit s.data.toList : Int) == ((rowT k).2.2.2.2 : Int)) = false := by rw [beq_eq_false_iff_ne]; omega
            have hmx : n ≤ fit s.data.toList := by rcases hin.out with ⟨_, h⟩ | ⟨h, _⟩ <;> omega
            have HO : Hid (okL s.data.toList = false) := hokl
            clear hokl hsz hm hin hof
            generalize (rowT k).1 = x0 at *
            generalize (rowT k).2.1 = x1 at *
            generalize (rowT k).2.2.1 = x2 at *
            generalize (rowT k).2.2.2.1 = x3 at *
            generalize (rowT k).2.2.2.2 = xx at *
            go_wp2_with fail
            refine (HR.out _).mono ?_
            rintro e w1 ⟨rfl, hb1⟩
            have hg1 := (hb1.block _ (by have := (Array.getElem?_eq_some_iff.1 hg).1; omega)).trans hg
            replace hok := hok.step hb1
            have hlt1 := (Array.getElem?_eq_some_iff.1 hg1).1
            clear hg hb1
            go_wp2_with fail
            refine (HF.out _).mono ?_
            rintro e w2 ⟨rfl, hb2⟩
            have c4 : w2.cell? ⟨w1.heap.size, 4, none⟩ = some (.int .i64 xx) := (hb2.cell (p := ⟨w1.heap.size, 4, none⟩) (by simp)).trans (by simp)
            have hg2 : Hid (w2.heap[w.heap.size]? = _) := (hb2.block w.heap.size (by simp; omega)).trans ((Below.heap_alloc w1 _ w.heap.size hlt1).trans hg1)
            have hok2 := (hok.step ((Below.refl _ _).alloc (Nat.le_refl _) _)).step hb2
            clear hb2 hg1 hok hlt1
            by_cases hle : fit s.data.toList ≤ n
            · have hnn : n = fit s.data.toList := by omega
              have HNN : Hid (n = fit s.data.toList) := hnn
              clear hnn
              go_wp2_with fail
              go_roundw
              case rel => exact ⟨k + 1, n, by omega, by go_num, rfl, hg2.out, hok2, hn1, hn4, .inr ⟨HNN.out, HO.out⟩⟩
              case measure => simp [intOf]; omega
            · go_wp2_with fail
              go_roundw
              case rel => exact ⟨k + 1, fit s.data.toList, by omega, by go_num, rfl, hg2.out, hok2, f1, f4, .inr ⟨rfl, HO.out⟩⟩
              case measure => simp [intOf]; omega
        · have hm' : mB (bt s.data.toList 0) k = false := by simpa using hm
          have FX2 := fitX_zero s k hm'
          have HF : Hid (∀ w, Calls Tryz.prog 91 #[.string s, .agg #[.int .i64 (rowT k).1, .int .i64 (rowT k).2.1, .int .i64 (rowT k).2.2.1, .int .i64 (rowT k).2.2.2.1, .int .i64 (rowT k).2.2.2.2]] w fun e w' => e = .returned (.int .i64 0) ∧ Below w.heap.size w w') := fun w => fits_any s _ _ _ _ _ 0 w HS.out x4.2 (fun j hj => by omega) FX2
          have HI : Hid ((∀ j, j < k + 1 → mB (bt s.data.toList 0) j = false) ∧ n = 1 ∨ n = fit s.data.toList ∧ okL s.data.toList = false) := by
            rcases hin.out with ⟨h, h'⟩ | h
            · refine .inl ⟨fun j hj => ?_, h'⟩
              by_cases e : j = k
              · subst e; exact hm'
              · exact h j (by omega)
            · exact .inr h
          have hne4 : ((0 : Int) == ((rowT k).2.2.2.2 : Int)) = false := by rw [beq_eq_false_iff_ne]; omega
          clear FX2 hm hm' hin
          generalize (rowT k).1 = x0 at *
          generalize (rowT k).2.1 = x1 at *
          generalize (rowT k).2.2.1 = x2 at *
          generalize (rowT k).2.2.2.1 = x3 at *
          generalize (rowT k).2.2.2.2 = xx at *
          go_wp2_with fail
          refine (HR.out _).mono ?_
          rintro e w1 ⟨rfl, hb1⟩
          have hg1 := (hb1.block _ (by have := (Array.getElem?_eq_some_iff.1 hg).1; omega)).trans hg
          replace hok := hok.step hb1
          have hlt1 := (Array.getElem?_eq_some_iff.1 hg1).1
          clear hg hb1
          go_wp2_with fail
          refine (HF.out _).mono ?_
          rintro e w2 ⟨rfl, hb2⟩
          have c4 : w2.cell? ⟨w1.heap.size, 4, none⟩ = some (.int .i64 xx) := (hb2.cell (p := ⟨w1.heap.size, 4, none⟩) (by simp)).trans (by simp)
          have hg2 : Hid (w2.heap[w.heap.size]? = _) := (hb2.block w.heap.size (by simp; omega)).trans ((Below.heap_alloc w1 _ w.heap.size hlt1).trans hg1)
          have hok2 := (hok.step ((Below.refl _ _).alloc (Nat.le_refl _) _)).step hb2
          clear hb2 hg1 hok hlt1
          go_wp2_with fail
          go_roundw
          case rel => exact ⟨k + 1, n, by omega, by go_num, rfl, hg2.out, hok2, hn1, hn4, HI⟩
          case measure => simp [intOf]; omega
      · have hfin : n = fit s.data.toList ∧ okL s.data.toList = false := by
          rcases hin.out with ⟨h, h'⟩ | h
          · have hz := mB_none ⟨bt s.data.toList 0, bt_lt _ _⟩ (fun j => h j.1 (by have := j.2; omega))
            simp only at hz
            have hf1 : fit s.data.toList = 1 := fit_eq _ 1 (by omega) (fun j a b => by omega) (fun g => by unfold goOn at g; omega)
            refine ⟨by omega, ?_⟩
            cases e : okL s.data.toList with
            | false => rfl
            | true => have := ((okL_iff _).1 e).2; omega
          · exact h
        have HO : Hid (okL s.data.toList = false) := hfin.2
        have HNN : Hid (n = fit s.data.toList) := hfin.1
        have HV2 : Hid (decR s.data.toList = 0) := by show _ = _; unfold decR; rw [hfin.2]; rfl
        have hc0 : wr.cell? ⟨w.heap.size, 0, none⟩ = some (.int .i64 0) := cell_row hg 0
        have hc1 : wr.cell? ⟨w.heap.size, 1, none⟩ = some (.int .i64 0) := cell_row hg 1
        have hc2 : wr.cell? ⟨w.heap.size, 2, none⟩ = some (.bool false) := cell_row hg 2
        have hz0 := frozen_row hg 0
        have hz1 := frozen_row hg 1
        have hz2 := frozen_row hg 2
        have hok2 := hok
        clear hfin hin hg hok
        go_wp2_with fail
        refine bodyPost_ret (v := .agg #[.int .i64 0, .int .i64 n, .bool false]) (by simp [results, Tryz.results70, go_sem, hc0, hc1, hc2]) rfl ⟨by unfold gotV; rw [HV2.out, HN.out, HO.out, ← HNN.out]; rfl, ((hok2.1.setCell (Nat.le_refl _) _).setCell (Nat.le_refl _) _).setCell (Nat.le_refl _) _⟩
  · have hl : s.data.toList = [] := List.eq_nil_of_length_eq_zero (by rw [len_size]; omega)
    have hE' : s.toList.isEmpty = true := by rw [ByteArray.toList_eq, hl]; rfl
    have HV2 : Hid (decR s.data.toList = 0) := by rw [hl]; rfl
    have HN : Hid (decN s.data.toList = 0) := by rw [hl]; rfl
    have HO : Hid (okL s.data.toList = false) := by rw [hl]; rfl
    clear hl
    go_enter Tryz.func70, Tryz.ntmps70
    go_wp2
    refine bodyPost_ret (v := .agg #[.int .i64 0, .int .i64 0, .bool false]) (by simp [results, Tryz.results70, go_sem]) rfl ⟨by unfold gotV; rw [HV2.out, HN.out, HO.out]; rfl, ?_⟩
    exact (Below.refl _ _).alloc (Nat.le_refl _) _

end Go.Proofs.YteimhepmcjdbpaaGreatDoor
