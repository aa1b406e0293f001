import Derived.Test.YtamohliclidpgabUtf10
namespace Go.Proofs.Ytamohliclidpgab
open Go.RowKit

theorem ret_pair {a b : ByteArray} {c d : Int} (h : a = b) (h' : c = d) : Ending.returned (.tuple #[.string a, .int .i64 c]) = .returned (.tuple #[.string b, .int .i64 d]) := by rw [h, h']
theorem app_list (a b : ByteArray) : (a ++ b).data.toList = a.data.toList ++ b.data.toList := by simp
theorem app_size (a b : ByteArray) : (a ++ b).size = a.size + b.size := by simp

set_option maxHeartbeats 2000000 in
theorem rrep_any (s : ByteArray) (w : World) (hs : s.size ≤ 1000000) :
    Calls Try.prog 25 #[.string s] w fun e w' => e = .returned (.tuple #[.string ⟨(repL s.data.toList).toArray⟩, .int .i64 (countL s.data.toList)]) ∧ Below w.heap.size w w' := by
  have HS : Hid (s.size ≤ maxLen) := by show _ ≤ _; unfold maxLen; omega
  go_enter Try.func25, Try.ntmps25
  go_wp2
  go_loopw [4, 5, 6] (fun o i c wr => ∃ (k fuel n : Nat) (out : ByteArray), o = .string out ∧ i = .int .i64 k ∧ c = .int .i64 n ∧ Ok w.heap.size w wr ∧ k ≤ s.size ∧ n ≤ k ∧ out.size ≤ 3 * k ∧ s.size ≤ k + fuel ∧ Hid (out.data.toList ++ repF s.data.toList fuel k = repL s.data.toList) ∧ Hid (n + countF s.data.toList fuel k = countL s.data.toList)) (fun _ i _ _ => s.size - (intOf i).toNat)
  case atStart => exact ⟨0, s.size, 0, ⟨#[]⟩, rfl, rfl, rfl, Ok.start w, by omega, by omega, by decide, by omega, by show _ = _; unfold repL; rw [len_size]; rfl, by show _ = _; unfold countL; rw [len_size]; simp⟩
  case round =>
    obtain ⟨k, fuel, n, out, rfl, rfl, rfl, hok, hks, hnk, hos, hfu, hR, hC⟩ := hrel
    by_cases hp : k < s.size
    · obtain ⟨f, rfl⟩ : ∃ f, fuel = f + 1 := ⟨fuel - 1, by omega⟩
      have hR2 := hR.out
      have hC2 := hC.out
      simp only [repF, countF] at hR2 hC2
      rw [if_pos (by rw [len_size]; exact hp), ← List.append_assoc] at hR2
      rw [if_pos (by rw [len_size]; exact hp)] at hC2
      have f1 := (fit_spec (s.data.toList.drop k)).1
      have f2 := fit_le _ (drop_ne s k hp)
      rw [List.length_drop, len_size] at f2
      have hd := fun w => rdec_any (s.extract k s.size) w (by rw [ext_size]; have := HS.out; omega)
      rw [ext_end] at hd
      unfold gotV decN at hd
      rw [if_neg (drop_ne s k hp)] at hd
      have HC2 : Hid (n + 1 + countF s.data.toList f (k + fit (s.data.toList.drop k)) = countL s.data.toList) := by show _ = _; omega
      by_cases ho : okL (s.data.toList.drop k) = true
      · rw [ho] at hd
        have HD : Hid (∀ w, Calls Try.prog 10 #[.string (s.extract k s.size)] w fun e w' => e = .returned (.agg #[.int .i64 (decR (s.data.toList.drop k)), .int .i64 (fit (s.data.toList.drop k)), .bool true]) ∧ Below w.heap.size w w') := hd
        have hx : (s.extract k (k + fit (s.data.toList.drop k))).data.toList = pieceL (s.data.toList.drop k) := by
          rw [ext_list, Nat.add_sub_cancel_left]; unfold pieceL; rw [if_pos ho]
        have HR2 : Hid ((out ++ s.extract k (k + fit (s.data.toList.drop k))).data.toList ++ repF s.data.toList f (k + fit (s.data.toList.drop k)) = repL s.data.toList) := by show _ = _; rw [app_list, hx]; exact hR2
        have hxs : (s.extract k (k + fit (s.data.toList.drop k))).size ≤ fit (s.data.toList.drop k) := by
          rw [← len_size, ext_list, List.length_take]; omega
        have HSZ : Hid ((out ++ s.extract k (k + fit (s.data.toList.drop k))).size ≤ 3 * (k + fit (s.data.toList.drop k))) := by show _ ≤ _; rw [app_size]; omega
        clear hd hR2 hC2 ho hR hC hx
        generalize fit (s.data.toList.drop k) = m at *
        generalize decR (s.data.toList.drop k) = v at *
        go_wp2_with (first | (go_at_call 10; refine (HD.out _).mono ?_; rintro e w' ⟨rfl, hb'⟩; replace hok := hok.step hb'; clear hb'))
        go_roundw
        case rel => exact ⟨k + m, f, n + 1, _, rfl, by go_num, by go_num, hok.alloc, by omega, by omega, HSZ.out, by omega, HR2, HC2⟩
        case measure => simp [intOf]; omega
      · have ho' : okL (s.data.toList.drop k) = false := by simpa using ho
        rw [ho'] at hd
        have HD : Hid (∀ w, Calls Try.prog 10 #[.string (s.extract k s.size)] w fun e w' => e = .returned (.agg #[.int .i64 (decR (s.data.toList.drop k)), .int .i64 (fit (s.data.toList.drop k)), .bool false]) ∧ Below w.heap.size w w') := hd
        have hx : pieceL (s.data.toList.drop k) = [239, 191, 189] := by unfold pieceL; rw [if_neg ho]
        have HR2 : Hid ((out ++ ⟨#[239, 191, 189]⟩).data.toList ++ repF s.data.toList f (k + fit (s.data.toList.drop k)) = repL s.data.toList) := by show _ = _; rw [app_list, ← hR2, hx]
        have HSZ : Hid ((out ++ ⟨#[239, 191, 189]⟩).size ≤ 3 * (k + fit (s.data.toList.drop k))) := by
          show _ ≤ _; rw [app_size]; have : (ByteArray.mk #[239, 191, 189]).size = 3 := rfl
          omega
        clear hd hR2 hC2 ho ho' hR hC hx
        generalize fit (s.data.toList.drop k) = m at *
        generalize decR (s.data.toList.drop k) = v at *
        go_wp2_with (first | (go_at_call 10; refine (HD.out _).mono ?_; rintro e w' ⟨rfl, hb'⟩; replace hok := hok.step hb'; clear hb'))
        go_roundw
        case rel => exact ⟨k + m, f, n + 1, _, rfl, by go_num, by go_num, hok.alloc, by omega, by omega, HSZ.out, by omega, HR2, HC2⟩
        case measure => simp [intOf]; omega
    · have H1 : Hid (out.data.toList = repL s.data.toList) := by
        show _ = _; rw [← hR.out, repF_end _ _ _ (by rw [len_size]; exact hp), List.append_nil]
      have H2 : Hid (countL s.data.toList = n) := by
        show _ = _; rw [← hC.out, countF_end _ _ _ (by rw [len_size]; exact hp)]; rfl
      clear hR hC
      go_wp2_with fail
      go_ret2
      exact ⟨ret_pair (by rw [← H1.out]) (by rw [H2.out]), hok.1⟩

/-- A scalar value's bytes alone: no fault, one part. -/
theorem one_part (p : List UInt8) (h : okL p = true) (hf : fit p = p.length) : faultL p = -1 ∧ countL p = 1 := by
  have hne := ((okL_iff p).1 h).1
  have hl : 1 ≤ p.length := by rw [← hf]; exact (fit_spec p).1
  obtain ⟨m, hm⟩ : ∃ m, p.length = m + 1 := ⟨p.length - 1, by omega⟩
  unfold faultL countL
  rw [hm]
  simp only [faultF, countF, List.drop_zero]
  rw [if_pos (by omega), h, if_pos rfl, hf, Nat.zero_add, faultF_end p m p.length (by omega), if_pos (by omega), countF_end p m p.length (by omega)]
  exact ⟨rfl, rfl⟩

theorem piece_one (l : List UInt8) : faultL (pieceL l) = -1 ∧ countL (pieceL l) = 1 := by
  unfold pieceL
  by_cases ho : okL l = true
  · rw [if_pos ho]
    obtain ⟨a, b, c, _⟩ := ok_facts l ho
    obtain ⟨o1, _, o3⟩ := enc_ok (valL l) a []
    have e : (encS (valL l)).data.toList = l.take (fit l) := by unfold encS; rw [if_pos a]; exact b
    have e2 : (encS (valL l)).size = (l.take (fit l)).length := by rw [← e, len_size]
    rw [List.append_nil, e] at o1 o3
    exact one_part _ o1 (by rw [o3, e2])
  · rw [if_neg ho]; decide +kernel

theorem rep_sound (l : List UInt8) : ∀ f i, faultL (repF l f i) = -1 ∧ countL (repF l f i) = countF l f i
  | 0, i => by exact ⟨rfl, rfl⟩
  | f + 1, i => by
    simp only [repF, countF]
    by_cases hi : i < l.length
    · rw [if_pos hi, if_pos hi]
      obtain ⟨p1, p2⟩ := piece_one (l.drop i)
      obtain ⟨j1, j2⟩ := joins (pieceL (l.drop i)) (repF l f (i + fit (l.drop i))) (by omega)
      obtain ⟨r1, r2⟩ := rep_sound l f (i + fit (l.drop i))
      rw [j1, j2, r1, r2, p2, if_neg (by omega)]
      exact ⟨rfl, rfl⟩
    · rw [if_neg hi, if_neg hi]; exact ⟨rfl, rfl⟩

theorem rep_stays (l : List UInt8) : ∀ f i, i ≤ l.length → l.length ≤ i + f → faultF l f i < 0 → repF l f i = l.drop i
  | 0, i, h1, h2, _ => by rw [List.drop_of_length_le (by omega)]; rfl
  | f + 1, i, h1, h2, h3 => by
    simp only [repF, faultF] at h3 ⊢
    by_cases hi : i < l.length
    · rw [if_pos hi] at h3 ⊢
      by_cases ho : okL (l.drop i) = true
      · rw [if_pos ho] at h3
        have f1 := (fit_spec (l.drop i)).1
        have f2 := fit_le (l.drop i) ((okL_iff _).1 ho).1
        rw [List.length_drop] at f2
        rw [rep_stays l f (i + fit (l.drop i)) (by omega) (by omega) h3]
        unfold pieceL
        rw [if_pos ho, ← List.drop_drop]
        exact List.take_append_drop _ _
      · rw [if_neg ho] at h3; omega
    · rw [if_neg hi, List.drop_of_length_le (by omega)]

theorem repL_sound (l : List UInt8) : faultL (repL l) = -1 ∧ countL (repL l) = countL l := rep_sound l l.length 0
theorem repL_stays (l : List UInt8) (h : faultL l < 0) : repL l = l := by
  have := rep_stays l l.length 0 (by omega) (by omega) h
  rwa [List.drop_zero] at this
theorem repL_twice (l : List UInt8) : repL (repL l) = repL l := repL_stays _ (by have := (repL_sound l).1; omega)
theorem repL_same (l : List UInt8) : (repL l == l) = decide (faultL l < 0) := by
  by_cases h : faultL l < 0
  · rw [repL_stays l h]; simp [h]
  · have hne : repL l ≠ l := fun e => by have := (repL_sound l).1; rw [e] at this; omega
    simp [h, hne]
theorem repL_len (l : List UInt8) : (repL l).length ≤ 3 * l.length := by
  have : ∀ f i, i ≤ l.length → (repF l f i).length ≤ 3 * (l.length - i) := by
    intro f
    induction f with
    | zero => intro i _; simp [repF]
    | succ f ih =>
      intro i hi
      simp only [repF]
      by_cases h : i < l.length
      · rw [if_pos h, List.length_append]
        have hne : l.drop i ≠ [] := by intro e; have := congrArg List.length e; simp at this; omega
        have f2 := fit_le _ hne
        rw [List.length_drop] at f2
        have := piece_len _ hne
        have := ih (i + fit (l.drop i)) (by omega)
        omega
      · rw [if_neg h]; simp
  have := this l.length 0 (by omega)
  unfold repL; omega
end Go.Proofs.Ytamohliclidpgab
