import Derived.Test.YteimhepmcjdbpaaGreatDoorIp28
namespace Go.Proofs.YteimhepmcjdbpaaGreatDoor
open Go.RowKit
namespace Ip

def dtI (x : Int) : List UInt8 := dcT x.toNat
def dtT : List Int → List UInt8
  | [] => []
  | x :: t => dtI x ++ t.flatMap fun y => 46 :: dtI y
theorem dtT_snoc (l : List Int) (x : Int) (h : l ≠ []) : dtT (l ++ [x]) = dtT l ++ ([46] ++ dtI x) := by
  cases l with
  | nil => exact absurd rfl h
  | cons a t => simp [dtT]
theorem dtI_len (x : Int) : (dtI x).length ≤ 3 := dcT_len _
theorem tx4_is (a b c d : Int) : dtT [a, b, c, d] = tx4 a b c d := by simp [dtT, tx4, dtI]

theorem itoaI_any (x : Int) (w : World) (h0 : 0 ≤ x) (h1 : x ≤ 255) (ht : Tb w) :
    Calls Tryz.prog 34 #[.int .i64 x] w fun e w' => e = .returned (.string ⟨(dtI x).toArray⟩) ∧ Below w.heap.size w w' := by
  obtain ⟨n, rfl⟩ := Int.eq_ofNat_of_zero_le h0
  exact itoa_any n w (by omega) ht

set_option maxRecDepth 100000 in
theorem ix4 (a b c d : Int) (k : Nat) (hk : k < 4) (x : Int) (h : [a, b, c, d][k]? = some x) : ∀ W, (Instr.index 23 (.agg #[.int .u8 a, .int .u8 b, .int .u8 c, .int .u8 d]) (.int .i64 (k : Int))).run Tryz.prog W = .ok (.int .u8 x) W := by
  match k, hk, h with
  | 0, _, h => obtain rfl := Option.some.inj h; exact fun _ => by kernel_rfl
  | 1, _, h => obtain rfl := Option.some.inj h; exact fun _ => by kernel_rfl
  | 2, _, h => obtain rfl := Option.some.inj h; exact fun _ => by kernel_rfl
  | 3, _, h => obtain rfl := Option.some.inj h; exact fun _ => by kernel_rfl

set_option maxRecDepth 100000 in
set_option maxHeartbeats 4000000 in
theorem text4_any (a b c d : Int) (w : World) (hw : ∀ x ∈ [a, b, c, d], 0 ≤ x ∧ x ≤ 255) (hT : Tb w) :
    Calls Tryz.prog 15 #[.agg #[.int .u8 a, .int .u8 b, .int .u8 c, .int .u8 d]] w fun e w' => e = .returned (.string ⟨(dtT [a, b, c, d]).toArray⟩) ∧ Below w.heap.size w w' := by
  have HN := hid (bu_new (w.alloc (.cells #[.int .u8 a, .int .u8 b, .int .u8 c, .int .u8 d] 23)) w.heap.size (by simp))
  have HK := hid (((Ok.start w).alloc (o := .cells #[.int .u8 a, .int .u8 b, .int .u8 c, .int .u8 d] 23)).alloc (o := .cells #[.pointer none, .slice none 0 0] 66))
  have HD := hid (fun (W : World) (h : Below w.heap.size w W) => hT.step h)
  obtain ⟨ws, hws⟩ : ∃ ws, ws = [a, b, c, d] := ⟨_, rfl⟩
  have hsz : ws.length = 4 := by rw [hws]; rfl
  have hix := ix4 a b c d
  rw [← hws] at hw hix ⊢
  have HIX := hid hix
  have HWB := hid hw
  clear hT hw hix hws
  have hb1 : (w.alloc (.cells #[.int .u8 a, .int .u8 b, .int .u8 c, .int .u8 d] 23)).heap.size = w.heap.size + 1 := by simp
  have HB1 := hid hb1
  clear hb1
  go_enter Tryz.func15, Tryz.ntmps15
  go_wp2
  rw [HB1.out] at HN
  go_loopw [7] (fun i wr => ∃ (k : Nat) (l : List UInt8), k ≤ 4 ∧ i = .int .i64 k ∧ Ok w.heap.size w wr ∧ Bu w.heap.size (w.heap.size + 1) l wr ∧ l.length ≤ 4 * k ∧ Hid (l = dtT (ws.take k))) (fun i _ => 4 - (intOf i).toNat)
  case atStart => exact ⟨0, [], Nat.zero_le _, rfl, HK.out, HN.out, Nat.zero_le _, rfl⟩
  case round =>
    obtain ⟨k, l, hk, rfl, hok, hB, hos, hin⟩ := hrel
    clear HN
    have HO := hid hok
    have HBu := hid hB
    clear hok hB
    by_cases hlt : k < 4
    · have hkl : k < ws.length := by omega
      have hr := HIX.out k hlt ws[k] (List.getElem?_eq_getElem hkl)
      obtain ⟨x0, x1⟩ := HWB.out ws[k] (List.getElem_mem hkl)
      have htk : ws.take (k + 1) = ws.take k ++ [ws[k]] := by rw [List.take_succ_eq_append_getElem hkl]
      have HS : Hid ((k = 0 → dtT (ws.take (k + 1)) = l ++ dtI ws[k]) ∧ (0 < k → dtT (ws.take (k + 1)) = (l ++ [46]) ++ dtI ws[k])) := by
        refine ⟨fun h => ?_, fun h => ?_⟩
        · subst h
          have e := hin.out
          rw [htk, e]; simp [dtT]
        · rw [htk, dtT_snoc _ _ (by intro e; have := congrArg List.length e; rw [List.length_take, List.length_nil] at this; omega), ← hin.out, List.append_assoc]
      have hxl := dtI_len ws[k]
      have HF := hid (fun (W : World) (h : Below w.heap.size w W) => itoaI_any ws[k] W x0 x1 (HD.out W h))
      have HW2 := hid (fun (m : List UInt8) (W : World) (h : Bu w.heap.size (w.heap.size + 1) m W) (hB : w.heap.size ≤ W.heap.size) (hm : m.length ≤ 1000) => wstr_any ⟨(dtI ws[k]).toArray⟩ h hB (by show m.length + (dtI ws[k]).toArray.size ≤ _; simp; omega))
      have er : (ByteArray.mk (dtI ws[k]).toArray).data.toList = dtI ws[k] := by simp
      have HW1 := hid (fun (W : World) (h : Bu w.heap.size (w.heap.size + 1) l W) (hB : w.heap.size ≤ W.heap.size) => wstr_any ⟨#[46]⟩ h hB (by show l.length + 1 ≤ _; omega))
      rw [er] at HW2
      have HXL := hid hxl
      clear hin htk er hxl
      generalize (ByteArray.mk (dtI ws[k]).toArray) = r at *
      generalize dtI ws[k] = hx at *
      generalize ws[k] = x at *
      by_cases hk0 : k = 0
      · have H1 := hid (HS.out.1 hk0)
        have hk0' : ¬ (0 : Int) < (k : Int) := by omega
        clear HS hk0
        go_wp2_with fail
        refine (HF.out _ HO.out.1).mono ?_
        rintro e w1 ⟨rfl, hb⟩
        have HO1 := hid (HO.out.step hb)
        have HB1 := hid (bu_step HBu.out hb)
        clear hb
        go_wp2_with fail
        refine (HW2.out l _ HB1.out HO1.out.2 (by omega)).mono ?_
        rintro e w2 ⟨rfl, hB2, ht⟩
        have HO2 : Hid (Ok w.heap.size w w2) := ⟨HO1.out.1.trans ht.1, Nat.le_trans HO1.out.2 ht.1.size⟩
        clear ht
        go_wp2_with fail
        go_roundw
        case rel => exact ⟨k + 1, _, by omega, by go_num, HO2.out, hB2, by rw [List.length_append]; have := HXL.out; omega, H1.out.symm⟩
        case measure => simp [intOf]; omega
      · have H1 := hid (HS.out.2 (by omega))
        have hk0' : (0 : Int) < (k : Int) := by omega
        clear HS
        go_wp2_with fail
        refine (HW1.out _ HBu.out HO.out.2).mono ?_
        rintro e w1 ⟨rfl, hB1, ht⟩
        have HO1 : Hid (Ok w.heap.size w w1) := ⟨HO.out.1.trans ht.1, Nat.le_trans HO.out.2 ht.1.size⟩
        have HB1 := hid hB1
        clear ht hB1
        go_wp2_with fail
        refine (HF.out _ HO1.out.1).mono ?_
        rintro e w2 ⟨rfl, hb⟩
        have HO2 := hid (HO1.out.step hb)
        have HB2 := hid (bu_step HB1.out hb)
        clear hb
        go_wp2_with fail
        refine (HW2.out _ _ HB2.out HO2.out.2 (by rw [List.length_append]; show l.length + 1 ≤ _; omega)).mono ?_
        rintro e w3 ⟨rfl, hB3, ht⟩
        have HO3 : Hid (Ok w.heap.size w w3) := ⟨HO2.out.1.trans ht.1, Nat.le_trans HO2.out.2 ht.1.size⟩
        clear ht
        go_wp2_with fail
        go_roundw
        case rel => exact ⟨k + 1, _, by omega, by go_num, HO3.out, hB3, by rw [List.length_append, List.length_append]; have := HXL.out; show l.length + 1 + _ ≤ _; omega, H1.out.symm⟩
        case measure => simp [intOf]; omega
    · have e : ws.take k = ws := List.take_of_length_le (by omega)
      rw [e] at hin
      have HBS := hid (bstr_bu HBu.out HO.out.2)
      have HL := hid hin.out
      go_wp2_with fail
      refine HBS.out.mono ?_
      rintro e w1 ⟨rfl, ht⟩
      have HF := hid (HO.out.1.trans ht.1)
      clear ht
      go_wp2_with fail
      go_ret
      exact ⟨by rw [HL.out]; rfl, HF.out⟩
end Ip
end Go.Proofs.YteimhepmcjdbpaaGreatDoor
