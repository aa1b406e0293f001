import Derived.Test.YtamohliclidpgabUtf7
namespace Go.Proofs.Ytamohliclidpgab
open Go.RowKit

def u8s (l : List UInt8) : List Value := l.map fun x => .int .u8 (x.toNat : Int)

/-- The bytes of a new block, as a string. -/
theorem conv_lit (w : World) (l : List UInt8) (n : Nat) (C : Array Value) (hn : l.length = n) (hC : C = (u8s l).toArray) : (convert 54 9 (.slice (some ⟨w.heap.size, 0, none⟩) n n)).run Try.prog (w.alloc (.cells C 5)) = .ok (.string ⟨l.toArray⟩) (w.alloc (.cells C 5)) := by
  subst hn hC
  refine run_convert_bytes_back _ 54 9 5 ⟨w.heap.size, 0, none⟩ _ l Try.underlying54 Try.underlying5 Try.underlying9 fun j hj => ?_
  have hadd : (⟨w.heap.size, 0, none⟩ : Addr).add j = ⟨w.heap.size, j, none⟩ := by unfold Addr.add; split <;> simp_all
  rw [hadd, World.cell?_alloc_new]
  simp [u8s, hj]

theorem foldl_push_ints : ∀ (l : List Int) (r : ByteArray), l.foldl (fun r n => r.push (UInt8.ofNat n.toNat)) r = ⟨r.data ++ (l.map fun n => UInt8.ofNat n.toNat).toArray⟩
  | [], r => by simp
  | b :: l, r => by
    rw [List.foldl_cons, foldl_push_ints l]
    simp [ByteArray.push]

theorem conv_ints (w : World) (ns : List Int) (n : Nat) (C : Array Value) (hn : ns.length = n) (hC : C = (ns.map (Value.int .u8)).toArray) : (convert 54 9 (.slice (some ⟨w.heap.size, 0, none⟩) n n)).run Try.prog (w.alloc (.cells C 5)) = .ok (.string ⟨(ns.map fun n => UInt8.ofNat n.toNat).toArray⟩) (w.alloc (.cells C 5)) := by
  subst hn hC
  rw [run_convert_bytes_string _ 54 9 5 (some ⟨w.heap.size, 0, none⟩) ns.length ns.length Try.underlying54 Try.underlying5 Try.underlying9]
  have hl := run_loadCells_list (P := Try.prog) (w.alloc (.cells (ns.map (Value.int .u8)).toArray 5)) ⟨w.heap.size, 0, none⟩ (ns.map (Value.int .u8)) (fun j v hv => by
    have hadd : (⟨w.heap.size, 0, none⟩ : Addr).add j = ⟨w.heap.size, j, none⟩ := by unfold Addr.add; split <;> simp_all
    rw [hadd, World.cell?_alloc_new]
    simpa using hv)
  rw [List.length_map] at hl
  rw [run_bytesToString _ _ ns.length ns.length ns hl, foldl_push_ints]
  have he0 : ByteArray.empty.data = #[] := rfl
  rw [he0]
  simp

theorem encode_cases (r : Int) (h : scB r = true) :
    (r < 128 → encS r = ⟨#[UInt8.ofNat r.toNat]⟩) ∧ (128 ≤ r → r < 2048 → encS r = ⟨#[UInt8.ofNat (192 + r / 64).toNat, UInt8.ofNat (128 + r % 64).toNat]⟩) ∧
    (2048 ≤ r → r < 65536 → encS r = ⟨#[UInt8.ofNat (224 + r / 4096).toNat, UInt8.ofNat (128 + r / 64 % 64).toNat, UInt8.ofNat (128 + r % 64).toNat]⟩) ∧
    (65536 ≤ r → encS r = ⟨#[UInt8.ofNat (240 + r / 262144).toNat, UInt8.ofNat (128 + r / 4096 % 64).toNat, UInt8.ofNat (128 + r / 64 % 64).toNat, UInt8.ofNat (128 + r % 64).toNat]⟩) := by
  have hr : (0 ≤ r ∧ r < 55296) ∨ (57343 < r ∧ r ≤ 1114111) := of_decide_eq_true h
  have hv : Utf8.valid r = true := by unfold Utf8.valid; simp; omega
  unfold encS
  rw [if_pos h]
  unfold Utf8.encode
  simp only [hv, if_true]
  refine ⟨fun a => ?_, fun a b => ?_, fun a b => ?_, fun a => ?_⟩
  · rw [if_pos (by omega)]
  · rw [if_neg (by omega), if_pos (by omega)]
    rw [show (192 + r / 64).toNat = 0xC0 + r.toNat / 64 by omega, show (128 + r % 64).toNat = 0x80 + r.toNat % 64 by omega]
  · rw [if_neg (by omega), if_neg (by omega), if_pos (by omega)]
    rw [show (224 + r / 4096).toNat = 0xE0 + r.toNat / 4096 by omega, show (128 + r / 64 % 64).toNat = 0x80 + r.toNat / 64 % 64 by omega, show (128 + r % 64).toNat = 0x80 + r.toNat % 64 by omega]
  · rw [if_neg (by omega), if_neg (by omega), if_neg (by omega)]
    rw [show (240 + r / 262144).toNat = 0xF0 + r.toNat / 262144 by omega, show (128 + r / 4096 % 64).toNat = 0x80 + r.toNat / 4096 % 64 by omega, show (128 + r / 64 % 64).toNat = 0x80 + r.toNat / 64 % 64 by omega, show (128 + r % 64).toNat = 0x80 + r.toNat % 64 by omega]

set_option maxRecDepth 100000 in
set_option maxHeartbeats 1000000 in
theorem renc_any (r : Int) (w : World) : Calls Try.prog 17 #[.int .i64 r] w fun e w' => e = .returned (.string (encS r)) ∧ Below w.heap.size w w' := by
  have hc1 := fun (w : World) (a : Int) => conv_ints w [a] 1 #[.int .u8 a] rfl rfl
  have hc2 := fun (w : World) (a b : Int) => conv_ints w [a, b] 2 #[.int .u8 a, .int .u8 b] rfl rfl
  have hc3 := fun (w : World) (a b c : Int) => conv_ints w [a, b, c] 3 #[.int .u8 a, .int .u8 b, .int .u8 c] rfl rfl
  have hc4 := fun (w : World) (a b c d : Int) => conv_ints w [a, b, c, d] 4 #[.int .u8 a, .int .u8 b, .int .u8 c, .int .u8 d] rfl rfl
  simp only [List.map_cons, List.map_nil] at hc1 hc2 hc3 hc4
  by_cases h : scB r = true
  · have hr : (0 ≤ r ∧ r < 55296) ∨ (57343 < r ∧ r ≤ 1114111) := of_decide_eq_true h
    have hlo : 0 ≤ r := by omega
    have hhi : r ≤ 1114111 := by omega
    clear hr
    obtain ⟨E1, E2, E3, E4⟩ := encode_cases r h
    by_cases h1 : r < 128
    · have H : Hid (encS r = _) := E1 h1
      clear hc2 hc3 hc4 E1 E2 E3 E4
      go_enter Try.func17, Try.ntmps17
      go_wp2_with (go_at_call 16; refine (rsc_any _ _).mono ?_; rintro e w' ⟨rfl, rfl⟩)
      go_ret
      exact ⟨ret_string H.out.symm, (Below.refl _ _).alloc (Nat.le_refl _) _⟩
    · by_cases h2 : r < 2048
      · have H : Hid (encS r = _) := E2 (by omega) h2
        clear hc1 hc3 hc4 E1 E2 E3 E4
        go_enter Try.func17, Try.ntmps17
        go_wp2_with (go_at_call 16; refine (rsc_any _ _).mono ?_; rintro e w' ⟨rfl, rfl⟩)
        go_ret
        exact ⟨ret_string H.out.symm, (Below.refl _ _).alloc (Nat.le_refl _) _⟩
      · by_cases h3 : r < 65536
        · have H : Hid (encS r = _) := E3 (by omega) h3
          clear hc1 hc2 hc4 E1 E2 E3 E4
          go_enter Try.func17, Try.ntmps17
          go_wp2_with (go_at_call 16; refine (rsc_any _ _).mono ?_; rintro e w' ⟨rfl, rfl⟩)
          go_ret
          exact ⟨ret_string H.out.symm, (Below.refl _ _).alloc (Nat.le_refl _) _⟩
        · have H : Hid (encS r = _) := E4 (by omega)
          clear hc1 hc2 hc3 E1 E2 E3 E4
          go_enter Try.func17, Try.ntmps17
          go_wp2_with (go_at_call 16; refine (rsc_any _ _).mono ?_; rintro e w' ⟨rfl, rfl⟩)
          go_ret
          exact ⟨ret_string H.out.symm, (Below.refl _ _).alloc (Nat.le_refl _) _⟩
  · have h' : scB r = false := by simpa using h
    have H : Hid (encS r = ⟨#[]⟩) := by show _ = _; unfold encS; rw [h']; rfl
    clear h hc1 hc2 hc3 hc4
    go_enter Try.func17, Try.ntmps17
    go_wp2_with (go_at_call 16; refine (rsc_any _ _).mono ?_; rintro e w' ⟨rfl, rfl⟩)
    go_ret
    exact ⟨ret_string H.out.symm, Below.refl _ _⟩

theorem bt_cons (x : UInt8) (l : List UInt8) : bt (x :: l) 0 = x.toNat := rfl
theorem bt_succ (x : UInt8) (l : List UInt8) (j : Nat) : bt (x :: l) (j + 1) = bt l j := rfl
theorem ofNat_toNat (v : Int) (h0 : 0 ≤ v) (h1 : v < 256) : (UInt8.ofNat v.toNat).toNat = v.toNat := by
  rw [UInt8.toNat_ofNat']; omega

set_option maxHeartbeats 2000000 in
/-- A scalar value's bytes, whatever stands behind them, begin with it. -/
theorem enc_ok (r : Int) (h : scB r = true) (t : List UInt8) : okL ((encS r).data.toList ++ t) = true ∧ (valL ((encS r).data.toList ++ t) : Int) = r ∧ fit ((encS r).data.toList ++ t) = (encS r).size := by
  have hr : (0 ≤ r ∧ r < 55296) ∨ (57343 < r ∧ r ≤ 1114111) := of_decide_eq_true h
  obtain ⟨E1, E2, E3, E4⟩ := encode_cases r h
  have q1 : r / 64 / 64 = r / 4096 := by omega
  have q2 : r / 4096 / 64 = r / 262144 := by omega
  have fin : ∀ (l : List UInt8) (sz : Nat), (rowB (bt l 0)).1 = sz → 1 ≤ sz → sz ≤ l.length → (∀ j, 1 ≤ j → j < sz → goOn l j) → okL l = true ∧ fit l = sz := by
    intro l sz h1 h2 h3 h4
    have hf : fit l = sz := fit_eq l sz h2 h4 (fun g => by unfold goOn at g; omega)
    exact ⟨(okL_iff l).2 ⟨by intro e; subst e; simp at h3; omega, by rw [hf, h1]⟩, hf⟩
  by_cases h1 : r < 128
  · rw [E1 h1]
    have b0 := ofNat_toNat r (by omega) (by omega)
    generalize UInt8.ofNat r.toNat = x0 at *
    show okL (x0 :: t) = true ∧ (valL (x0 :: t) : Int) = r ∧ fit (x0 :: t) = 1
    have hrow : rowB (bt (x0 :: t) 0) = (1, 0, 0) := by
      rw [bt_cons, b0]; unfold rowB; rw [if_pos (by omega)]
    obtain ⟨a, b⟩ := fin (x0 :: t) 1 (by rw [hrow]) (by omega) (by simp) (fun j _ _ => by omega)
    refine ⟨a, ?_, b⟩
    unfold valL; rw [hrow, if_pos rfl, bt_cons, b0]; omega
  · by_cases h2 : r < 2048
    · rw [E2 (by omega) h2]
      have b0 := ofNat_toNat (192 + r / 64) (by omega) (by omega)
      have b1 := ofNat_toNat (128 + r % 64) (by omega) (by omega)
      generalize UInt8.ofNat (192 + r / 64).toNat = x0 at *
      generalize UInt8.ofNat (128 + r % 64).toNat = x1 at *
      show okL (x0 :: x1 :: t) = true ∧ (valL (x0 :: x1 :: t) : Int) = r ∧ fit (x0 :: x1 :: t) = 2
      have hrow : rowB (bt (x0 :: x1 :: t) 0) = (2, 128, 191) := by
        rw [bt_cons, b0]; unfold rowB; rw [if_neg (by omega), if_pos (by omega)]
      have e1 : bt (x0 :: x1 :: t) 1 = x1.toNat := rfl
      obtain ⟨a, b⟩ := fin (x0 :: x1 :: t) 2 (by rw [hrow]) (by omega) (by simp) (fun j j1 j2 => by
        have : j = 1 := by omega
        subst this
        unfold goOn; rw [hrow, e1, b1]; simp; omega)
      refine ⟨a, ?_, b⟩
      unfold valL; rw [hrow, if_neg (by decide), if_pos rfl, bt_cons, e1, b0, b1]; omega
    · by_cases h3 : r < 65536
      · rw [E3 (by omega) h3]
        have b0 := ofNat_toNat (224 + r / 4096) (by omega) (by omega)
        have b1 := ofNat_toNat (128 + r / 64 % 64) (by omega) (by omega)
        have b2 := ofNat_toNat (128 + r % 64) (by omega) (by omega)
        generalize UInt8.ofNat (224 + r / 4096).toNat = x0 at *
        generalize UInt8.ofNat (128 + r / 64 % 64).toNat = x1 at *
        generalize UInt8.ofNat (128 + r % 64).toNat = x2 at *
        show okL (x0 :: x1 :: x2 :: t) = true ∧ (valL (x0 :: x1 :: x2 :: t) : Int) = r ∧ fit (x0 :: x1 :: x2 :: t) = 3
        have e0 : bt (x0 :: x1 :: x2 :: t) 0 = x0.toNat := rfl
        have e1 : bt (x0 :: x1 :: x2 :: t) 1 = x1.toNat := rfl
        have e2 : bt (x0 :: x1 :: x2 :: t) 2 = x2.toNat := rfl
        have hrow := rowB_cases x0.toNat (by have := x0.toNat_lt; omega)
        have hsz : (rowB x0.toNat).1 = 3 ∧ (rowB x0.toNat).2.1 ≤ x1.toNat ∧ x1.toNat ≤ (rowB x0.toNat).2.2 := by
          rcases hrow with ⟨c, e⟩ | ⟨c, c', e⟩ | ⟨c, e⟩ | ⟨c, c', e⟩ | ⟨c, e⟩ | ⟨c, c', e⟩ | ⟨c, e⟩ | ⟨c, c', e⟩ | ⟨c, e⟩ | ⟨c, e⟩ <;> rw [e] <;> first | (exfalso; omega) | exact ⟨rfl, by simp only; omega, by simp only; omega⟩
        obtain ⟨a, b⟩ := fin (x0 :: x1 :: x2 :: t) 3 (by rw [e0]; exact hsz.1) (by omega) (by simp) (fun j j1 j2 => by
          have : j = 1 ∨ j = 2 := by omega
          rcases this with rfl | rfl
          · unfold goOn; rw [e0, e1, hsz.1]; simp; omega
          · unfold goOn; rw [e0, e2, hsz.1]; simp; omega)
        refine ⟨a, ?_, b⟩
        unfold valL; rw [e0, e1, e2, hsz.1, if_neg (by decide), if_neg (by decide), if_pos rfl, b0, b1, b2]; omega
      · rw [E4 (by omega)]
        have b0 := ofNat_toNat (240 + r / 262144) (by omega) (by omega)
        have b1 := ofNat_toNat (128 + r / 4096 % 64) (by omega) (by omega)
        have b2 := ofNat_toNat (128 + r / 64 % 64) (by omega) (by omega)
        have b3 := ofNat_toNat (128 + r % 64) (by omega) (by omega)
        generalize UInt8.ofNat (240 + r / 262144).toNat = x0 at *
        generalize UInt8.ofNat (128 + r / 4096 % 64).toNat = x1 at *
        generalize UInt8.ofNat (128 + r / 64 % 64).toNat = x2 at *
        generalize UInt8.ofNat (128 + r % 64).toNat = x3 at *
        show okL (x0 :: x1 :: x2 :: x3 :: t) = true ∧ (valL (x0 :: x1 :: x2 :: x3 :: t) : Int) = r ∧ fit (x0 :: x1 :: x2 :: x3 :: t) = 4
        have e0 : bt (x0 :: x1 :: x2 :: x3 :: t) 0 = x0.toNat := rfl
        have e1 : bt (x0 :: x1 :: x2 :: x3 :: t) 1 = x1.toNat := rfl
        have e2 : bt (x0 :: x1 :: x2 :: x3 :: t) 2 = x2.toNat := rfl
        have e3 : bt (x0 :: x1 :: x2 :: x3 :: t) 3 = x3.toNat := rfl
        have hrow := rowB_cases x0.toNat (by have := x0.toNat_lt; omega)
        have hsz : (rowB x0.toNat).1 = 4 ∧ (rowB x0.toNat).2.1 ≤ x1.toNat ∧ x1.toNat ≤ (rowB x0.toNat).2.2 := by
          rcases hrow with ⟨c, e⟩ | ⟨c, c', e⟩ | ⟨c, e⟩ | ⟨c, c', e⟩ | ⟨c, e⟩ | ⟨c, c', e⟩ | ⟨c, e⟩ | ⟨c, c', e⟩ | ⟨c, e⟩ | ⟨c, e⟩ <;> rw [e] <;> first | (exfalso; omega) | exact ⟨rfl, by simp only; omega, by simp only; omega⟩
        obtain ⟨a, b⟩ := fin (x0 :: x1 :: x2 :: x3 :: t) 4 (by rw [e0]; exact hsz.1) (by omega) (by simp) (fun j j1 j2 => by
          have : j = 1 ∨ j = 2 ∨ j = 3 := by omega
          rcases this with rfl | rfl | rfl
          · unfold goOn; rw [e0, e1, hsz.1]; simp; omega
          · unfold goOn; rw [e0, e2, hsz.1]; simp; omega
          · unfold goOn; rw [e0, e3, hsz.1]; simp; omega)
        refine ⟨a, ?_, b⟩
        unfold valL; rw [e0, e1, e2, e3, hsz.1, if_neg (by decide), if_neg (by decide), if_neg (by decide), b0, b1, b2, b3]; omega

theorem uawake_any (w : World) : Calls Try.prog 8 #[] w fun e w' => e = .returned (.bool true) ∧ Below w.heap.size w w' := by
  have hok := Ok.start w
  have d1 : decN [226, 130] = 2 := by decide +kernel
  have d2 : okL [226, 130] = false := by decide +kernel
  have d3 : encS 252 = ⟨#[195, 188]⟩ := by decide +kernel
  have d4 : countL [192, 128] = 2 := by decide +kernel
  have d5 : faultL [255] = 0 := by decide +kernel
  go_enter Try.func8, Try.ntmps8
  go_wp2_with (first | (go_at_call 9; refine (dec_any _ _).mono ?_; rintro e w' ⟨rfl, hb'⟩; replace hok := hok.step hb'; clear hb') | (go_at_call 14; refine (enc_any _ _).mono ?_; rintro e w' ⟨rfl, rfl⟩) | (go_at_call 26; refine (cnt_any _ _ (by decide)).mono ?_; rintro e w' ⟨rfl, hb'⟩; replace hok := hok.step hb'; clear hb') | (go_at_call 13; refine (val_any _ _).mono ?_; rintro e w' ⟨rfl, hb'⟩; replace hok := hok.step hb'; clear hb'))
  go_ret
  exact ⟨rfl, hok.1⟩
end Go.Proofs.Ytamohliclidpgab
