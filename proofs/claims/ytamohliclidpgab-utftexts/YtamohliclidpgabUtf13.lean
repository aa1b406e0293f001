import Derived.Test.YtamohliclidpgabUtf12
namespace Go.Proofs.Ytamohliclidpgab
open Go.RowKit

/-- What a call owns from B on, and that nothing below has turned. -/
def OwnI (B : Nat) (W0 : World) (v : Value) (zs : List Int) (w : World) : Prop := w.ownsRowF B 3 1 v zs.length (ivs .i64 zs) ∧ Ok B W0 w
theorem OwnI.put {B : Nat} {W0 w w' : World} {v v' : Value} {zs : List Int} {z : Int} {o : Obj} (h : OwnI B W0 v zs w) (h1 : w'.ownsRowF B 3 1 v' (zs.length + 1) (ivs .i64 zs ++ [.int .i64 z])) (h2 : (w.alloc o).grownBy w' v.ownBlock) : OwnI B W0 v' (zs ++ [z]) w' := by
  refine ⟨by rw [ivs_snoc, List.length_append]; exact h1, ?_, ?_⟩
  · exact (h.2.1.alloc h.2.2 o).grown h2 (by have := h.2.2; simp; omega) (fun k hk => (h.1.lt k hk).1)
  · have h3 := h2.size; have h4 := h.2.2; rw [World.size_alloc] at h3; omega
theorem OwnI.step {B : Nat} {W0 w w' : World} {v : Value} {zs : List Int} (h : OwnI B W0 v zs w) (h' : Below w.heap.size w w') : OwnI B W0 v zs w' :=
  ⟨h.1.kept (below_grown h') (by cases v.ownBlock <;> simp), h.2.step h'⟩
theorem OwnI.start (w : World) : OwnI w.heap.size w (.slice (some ⟨w.heap.size, 0, none⟩) 0 0) [] (w.alloc (.cells #[] 3)) :=
  ⟨World.ownsRowF_of (World.ownsRow_made w #[] 0 (Nat.le_refl _) (Nat.zero_le _) rfl), (Ok.start w).alloc⟩

set_option maxHeartbeats 2000000 in
theorem ints_cons (b off cap : Nat) (zs : List Int) (w : World) (hb : b < w.heap.size) (hc : ∀ j (h : j < zs.length), w.cell? ⟨b, off + j, none⟩ = some (.int .i32 zs[j])) (hn : zs.length ≤ 1000000) (hz : ∀ z ∈ zs, -2147483648 ≤ z ∧ z ≤ 2147483647) :
    Calls Try.prog 21 #[.slice (some ⟨b, off, none⟩) zs.length cap] w fun e w' => ∃ v, e = .returned v ∧ Sl .i64 w' v zs ∧ Below w.heap.size w w' := by
  obtain ⟨i0, hi, hz0, hz1, hz2⟩ := info_parts Try.info_i64
  have HC : Hid (∀ j (h : j < zs.length), w.cell? ⟨b, off + j, none⟩ = some (.int .i32 zs[j])) := hc
  have HZ : Hid (∀ z ∈ zs, -2147483648 ≤ z ∧ z ≤ 2147483647) := hz
  clear hc hz
  go_enter Try.func21, Try.ntmps21
  go_wp2
  go_loopw [3, 9] (fun v i wr => ∃ k : Nat, k ≤ zs.length ∧ i = .int .i64 k ∧ OwnI w.heap.size w v (zs.take k) wr) (fun _ i _ => zs.length - (intOf i).toNat)
  case atStart => exact ⟨0, by omega, rfl, OwnI.start w⟩
  case round =>
    obtain ⟨k, hk, rfl, hO⟩ := hrel
    by_cases hlt : k < zs.length
    · have hcell : wr.cell? ⟨b, off + k, none⟩ = some (.int .i32 zs[k]) := by rw [hO.2.1.cell (p := ⟨b, off + k, none⟩) hb]; exact HC.out k hlt
      have HT : Hid (zs.take (k + 1) = zs.take k ++ [zs[k]]) := take_snocI zs k hlt
      obtain ⟨z1, z2⟩ := HZ.out zs[k] (List.getElem_mem hlt)
      have hl : (zs.take k).length = k := by simp; omega
      have hO0 := hO.1
      rw [hl] at hO0
      have hO1 : Hid (wr.ownsRowF w.heap.size 3 1 _ k (ivs .i64 (zs.take k))) := hO0
      clear hO0
      have HO : Hid (OwnI w.heap.size w _ (zs.take k) wr) := hO
      have hsz := hO.2.2
      have HL : Hid ((zs.take k).length = k) := hl
      clear hO hl
      go_wp2_with (first | (at_builtin; refine append_one rfl (.tmp 13) (.tmp 16) 41 rfl w.heap.size 3 i0 (.int .i64 0) 8 Try.underlying41 hi hz0 hz1 hz2 rfl _ k (ivs .i64 (zs.take k)) rfl _ _ rfl hO1.out hsz rfl (by omega) (by unfold maxLen; omega) ?_; intro v' w1 ho1 hg1))
      go_roundw
      case rel => exact ⟨k + 1, by omega, by go_num, by rw [HT.out]; exact HO.out.put (by rw [HL.out]; exact ho1) hg1⟩
      case measure => simp [intOf]; omega
    · have e1 : zs.take k = zs := List.take_of_length_le (by omega)
      rw [e1] at hO
      have HO : Hid (OwnI w.heap.size w _ zs wr) := hO
      clear e1 hO
      go_wp2_with fail
      go_ret
      exact ⟨_, rfl, Sl.of_own HO.out.1, HO.out.2.1⟩

theorem ints_nil (a : Option Addr) (cap : Nat) (w : World) :
    Calls Try.prog 21 #[.slice a 0 cap] w fun e w' => ∃ v, e = .returned v ∧ Sl .i64 w' v [] ∧ Below w.heap.size w w' := by
  go_enter Try.func21, Try.ntmps21
  go_wp2
  go_loopw [3, 9] (fun v i wr => i = .int .i64 0 ∧ v = .slice (some ⟨w.heap.size, 0, none⟩) 0 0 ∧ wr = w.alloc (.cells #[] 3)) (fun _ _ _ => 0)
  case atStart => exact ⟨rfl, rfl, rfl⟩
  case round =>
    obtain ⟨rfl, rfl, rfl⟩ := hrel
    go_wp2_with fail
    go_ret
    exact ⟨_, rfl, .inl ⟨rfl, _, _, rfl⟩, (Below.refl _ _).alloc (Nat.le_refl _) _⟩

theorem ints_any (v : Value) (zs : List Int) (w : World) (h : Sl .i32 w v zs) (hn : zs.length ≤ 1000000) (hz : ∀ z ∈ zs, -2147483648 ≤ z ∧ z ≤ 2147483647) :
    Calls Try.prog 21 #[v] w fun e w' => ∃ v, e = .returned v ∧ Sl .i64 w' v zs ∧ Below w.heap.size w w' := by
  rcases h with ⟨rfl, a, cap, rfl⟩ | ⟨b, off, cap, rfl, hb, hc⟩
  · exact ints_nil a cap w
  · exact ints_cons b off cap zs w hb hc hn hz

set_option maxHeartbeats 2000000 in
theorem rrunes_any (s : ByteArray) (w : World) (hs : s.size ≤ 1000000) (hv : faultL s.data.toList < 0) :
    Calls Try.prog 22 #[.string s] w fun e w' => ∃ v, e = .returned v ∧ Sl .i64 w' v (runesL s.data.toList) ∧ Below w.heap.size w w' := by
  obtain ⟨i0, hi, hz0, hz1, hz2⟩ := info_parts Try.info_i64
  have HS : Hid (s.size ≤ maxLen) := by show _ ≤ _; unfold maxLen; omega
  have hv' : faultL s.data.toList = -1 := by unfold faultL at hv ⊢; exact faultF_neg _ _ _ hv
  have HV : Hid (faultL s.data.toList = -1) := hv'
  clear hv hv'
  go_enter Try.func22, Try.ntmps22
  go_wp2
  go_loopw [3, 4] (fun v i wr => ∃ (k fuel : Nat) (zs : List Int), i = .int .i64 k ∧ OwnI w.heap.size w v zs wr ∧ k ≤ s.size ∧ zs.length ≤ k ∧ s.size ≤ k + fuel ∧ Hid (zs ++ runesF s.data.toList fuel k = runesL s.data.toList) ∧ Hid (faultF s.data.toList fuel k = -1)) (fun _ i _ => s.size - (intOf i).toNat)
  case atStart => exact ⟨0, s.size, [], rfl, OwnI.start w, by omega, by simp, by omega, by show _ = _; unfold runesL; rw [len_size]; rfl, by show _ = _; rw [← HV.out]; unfold faultL; rw [len_size]⟩
  case round =>
    obtain ⟨k, fuel, zs, rfl, hO, hks, hzl, hfu, hR, hF⟩ := hrel
    by_cases hp : k < s.size
    · obtain ⟨f, rfl⟩ : ∃ f, fuel = f + 1 := ⟨fuel - 1, by omega⟩
      have hF2 := hF.out
      have hR2 := hR.out
      simp only [faultF, runesF] at hF2 hR2
      rw [if_pos (by rw [len_size]; exact hp)] at hF2 hR2
      have f1 := (fit_spec (s.data.toList.drop k)).1
      have f2 := fit_le _ (drop_ne s k hp)
      rw [List.length_drop, len_size] at f2
      have hd := fun w => rdec_any (s.extract k s.size) w (by rw [ext_size]; have := HS.out; omega)
      rw [ext_end] at hd
      unfold gotV decN at hd
      rw [if_neg (drop_ne s k hp)] at hd
      have ho : okL (s.data.toList.drop k) = true := by
        cases e : okL (s.data.toList.drop k) with
        | true => rfl
        | false => rw [e] at hF2; simp at hF2
      rw [if_pos ho] at hF2
      unfold decR at hd
      rw [if_pos ho, ho] at hd
      have HD : Hid (∀ w, Calls Try.prog 10 #[.string (s.extract k s.size)] w fun e w' => e = .returned (.agg #[.int .i64 (valL (s.data.toList.drop k)), .int .i64 (fit (s.data.toList.drop k)), .bool true]) ∧ Below w.heap.size w w') := hd
      have H2 : Hid (faultF s.data.toList f (k + fit (s.data.toList.drop k)) = -1) := hF2
      have H3 : Hid (zs ++ [(valL (s.data.toList.drop k) : Int)] ++ runesF s.data.toList f (k + fit (s.data.toList.drop k)) = runesL s.data.toList) := by show _ = _; rw [List.append_assoc]; exact hR2
      clear hd hF2 ho hF hR hR2
      generalize fit (s.data.toList.drop k) = m at *
      generalize valL (s.data.toList.drop k) = vv at *
      go_wp2_with (go_at_call 10; refine (HD.out _).mono ?_)
      rintro e w2 ⟨rfl, hb'⟩
      have hne0 := fun (e : some w2.heap.size = Value.ownBlock _) => Nat.lt_irrefl _ ((hO.step hb').1.lt _ e.symm).2
      have hne : Hid (some w2.heap.size ≠ Value.ownBlock _) := hne0
      clear hne0
      have hO2 : OwnI w.heap.size w _ zs (w2.alloc (.cells #[.int .i64 vv, .int .i64 m, .bool true] 26)) := (hO.step hb').step ((Below.refl _ _).alloc (Nat.le_refl _) _)
      have HO : Hid (OwnI w.heap.size w _ zs (w2.alloc (.cells #[.int .i64 vv, .int .i64 m, .bool true] 26))) := hO2
      have hsz : Hid (w.heap.size ≤ (w2.alloc (.cells #[.int .i64 vv, .int .i64 m, .bool true] 26)).heap.size) := hO2.2.2
      clear hO hb' hO2
      go_wp2_with (first | (at_builtin; refine append_one rfl (.tmp 15) (.tmp 18) 41 rfl w.heap.size 3 i0 (.int .i64 0) 8 Try.underlying41 hi hz0 hz1 hz2 rfl _ zs.length (ivs .i64 zs) rfl _ _ rfl HO.out.1 hsz.out (by show Value.slice (some ⟨w2.heap.size + 1, 0, none⟩) 1 1 = _; simp) (by omega) (by unfold maxLen; omega) ?_; intro v' w1 ho1 hg1; have hc1 := hg1.cell (a := ⟨w2.heap.size, 1, none⟩) (v := .int .i64 m) (by simp) hne.out))
      go_roundw
      case rel => exact ⟨k + m, f, zs ++ [(vv : Int)], by go_num, HO.out.put ho1 hg1, by omega, by simp; omega, by omega, H3, H2⟩
      case measure => simp [intOf]; omega
    · have H3 : Hid (zs = runesL s.data.toList) := by
        show _ = _; rw [← hR.out, runesF_end _ _ _ (by rw [len_size]; exact hp), List.append_nil]
      have HO : Hid (OwnI w.heap.size w _ zs wr) := hO
      clear hR hF hO
      go_wp2_with fail
      go_ret
      exact ⟨_, rfl, by rw [← H3.out]; exact Sl.of_own HO.out.1, HO.out.2.1⟩

set_option maxHeartbeats 2000000 in
theorem rtext_cons (b off cap : Nat) (zs : List Int) (w : World) (hb : b < w.heap.size) (hc : ∀ j (h : j < zs.length), w.cell? ⟨b, off + j, none⟩ = some (.int .i64 zs[j])) (hn : zs.length ≤ 1000000) :
    Calls Try.prog 23 #[.slice (some ⟨b, off, none⟩) zs.length cap] w fun e w' => e = .returned (.string ⟨(textL zs).toArray⟩) ∧ Below w.heap.size w w' := by
  have HC : Hid (∀ j (h : j < zs.length), w.cell? ⟨b, off + j, none⟩ = some (.int .i64 zs[j])) := hc
  clear hc
  go_enter Try.func23, Try.ntmps23
  go_wp2
  go_loopw [3, 4] (fun o i wr => ∃ (k : Nat) (out : ByteArray), k ≤ zs.length ∧ i = .int .i64 k ∧ o = .string out ∧ Ok w.heap.size w wr ∧ out.size ≤ 4 * k ∧ Hid (out.data.toList = textL (zs.take k))) (fun _ i _ => zs.length - (intOf i).toNat)
  case atStart => exact ⟨0, ⟨#[]⟩, by omega, rfl, rfl, Ok.start w, by decide, rfl⟩
  case round =>
    obtain ⟨k, out, hk, rfl, rfl, hok, hos, hT⟩ := hrel
    by_cases hlt : k < zs.length
    · have hcell : wr.cell? ⟨b, off + k, none⟩ = some (.int .i64 zs[k]) := by rw [hok.1.cell (p := ⟨b, off + k, none⟩) hb]; exact HC.out k hlt
      have HT : Hid ((out ++ encS zs[k]).data.toList = textL (zs.take (k + 1))) := by show _ = _; rw [app_list, take_snocI zs k hlt, textL_snoc, hT.out]
      have h4 := encS_le zs[k]
      have HSZ : Hid ((out ++ encS zs[k]).size ≤ 4 * (k + 1)) := by show _ ≤ _; rw [app_size]; omega
      clear hT
      go_wp2_with (first | (go_at_call 17; refine (renc_any _ _).mono ?_; rintro e w' ⟨rfl, hb'⟩; replace hok := hok.step hb'; clear hb'))
      go_roundw
      case rel => exact ⟨k + 1, _, by omega, by go_num, rfl, hok, HSZ.out, HT⟩
      case measure => simp [intOf]; omega
    · have e1 : zs.take k = zs := List.take_of_length_le (by omega)
      rw [e1] at hT
      clear e1
      go_wp2_with fail
      go_ret
      exact ⟨ret_string (by rw [← hT.out]), hok.1⟩

theorem rtext_nil (a : Option Addr) (cap : Nat) (w : World) :
    Calls Try.prog 23 #[.slice a 0 cap] w fun e w' => e = .returned (.string ⟨(textL []).toArray⟩) ∧ Below w.heap.size w w' := by
  go_enter Try.func23, Try.ntmps23
  go_wp2
  go_loop [3, 4] (fun o i => i = .int .i64 0 ∧ o = .string ⟨#[]⟩) (fun _ _ => 0)
  case atStart => exact ⟨rfl, rfl⟩
  case round =>
    obtain ⟨rfl, rfl⟩ := hrel
    go_wp2_with fail
    go_ret
    exact ⟨rfl, Below.refl _ _⟩

theorem rtext_any (v : Value) (zs : List Int) (w : World) (h : Sl .i64 w v zs) (hn : zs.length ≤ 1000000) :
    Calls Try.prog 23 #[v] w fun e w' => e = .returned (.string ⟨(textL zs).toArray⟩) ∧ Below w.heap.size w w' := by
  rcases h with ⟨rfl, a, cap, rfl⟩ | ⟨b, off, cap, rfl, hb, hc⟩
  · exact rtext_nil a cap w
  · exact rtext_cons b off cap zs w hb hc hn
end Go.Proofs.Ytamohliclidpgab
