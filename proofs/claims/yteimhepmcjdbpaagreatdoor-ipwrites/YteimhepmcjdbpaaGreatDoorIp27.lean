import Derived.Test.YteimhepmcjdbpaaGreatDoorIp26
import Derived.Deep.RegionWith
namespace Go.Proofs.YteimhepmcjdbpaaGreatDoor
open Go.RowKit
namespace Ip

theorem row8i {w : World} {g : Nat} {x0 x1 x2 x3 x4 x5 x6 x7 : Int} (h : Li w g (i64v [x0, x1, x2, x3, x4, x5, x6, x7])) :
    w.cell? ⟨g, 0, none⟩ = some (.int .i64 x0) ∧ w.cell? ⟨g, 1, none⟩ = some (.int .i64 x1) ∧ w.cell? ⟨g, 2, none⟩ = some (.int .i64 x2) ∧ w.cell? ⟨g, 3, none⟩ = some (.int .i64 x3) ∧ w.cell? ⟨g, 4, none⟩ = some (.int .i64 x4) ∧ w.cell? ⟨g, 5, none⟩ = some (.int .i64 x5) ∧ w.cell? ⟨g, 6, none⟩ = some (.int .i64 x6) ∧ w.cell? ⟨g, 7, none⟩ = some (.int .i64 x7) :=
  ⟨li_i64 h 0 (by simp), li_i64 h 1 (by simp), li_i64 h 2 (by simp), li_i64 h 3 (by simp), li_i64 h 4 (by simp), li_i64 h 5 (by simp), li_i64 h 6 (by simp), li_i64 h 7 (by simp)⟩
theorem ba_size (l : List UInt8) : (ByteArray.mk l.toArray).size = l.length := by rw [← len_size]
theorem zr_one (xs : List Int) (b n : Nat) (hm : ∀ m, n < m → ∀ b, b + m ≤ 8 → zrL xs b m = false) (hb : ∀ c, c < b → zrL xs c n = false) (h : 8 < b + n) : ∀ m, n - 1 < m → ∀ b, b + m ≤ 8 → zrL xs b m = false := by
  intro m h1 c h2
  by_cases h3 : m = n
  · subst h3; exact hb c (by omega)
  · exact hm m (by omega) c h2

set_option maxRecDepth 100000 in
set_option maxHeartbeats 4000000 in
theorem rtext6_any (x0 x1 x2 x3 x4 x5 x6 x7 : Int) (w : World) (hw : In6 [x0, x1, x2, x3, x4, x5, x6, x7]) :
    Calls Tryz.prog 18 #[.agg #[.int .i64 x0, .int .i64 x1, .int .i64 x2, .int .i64 x3, .int .i64 x4, .int .i64 x5, .int .i64 x6, .int .i64 x7]] w fun e w' => e = .returned (.string ⟨(tx6 [x0, x1, x2, x3, x4, x5, x6, x7]).toArray⟩) ∧ Below w.heap.size w w' := by
  have HB := hid ((Below.refl w.heap.size w).alloc (Nat.le_refl _) (.cells #[.int .i64 x0, .int .i64 x1, .int .i64 x2, .int .i64 x3, .int .i64 x4, .int .i64 x5, .int .i64 x6, .int .i64 x7] 33))
  have HL := hid (box8i w x0 x1 x2 x3 x4 x5 x6 x7)
  have HG : Hid (w.heap.size < (w.alloc (.cells #[.int .i64 x0, .int .i64 x1, .int .i64 x2, .int .i64 x3, .int .i64 x4, .int .i64 x5, .int .i64 x6, .int .i64 x7] 33)).heap.size) := by show _ < _; simp
  obtain ⟨xs, hxs⟩ : ∃ xs, xs = [x0, x1, x2, x3, x4, x5, x6, x7] := ⟨_, rfl⟩
  have hsz : xs.length = 8 := by rw [hxs]; rfl
  have HZ := hid (fun (a n : Nat) (h : a + n ≤ 8) W => rzero_any x0 x1 x2 x3 x4 x5 x6 x7 a n h W)
  have HS := hid (fun (f t : Nat) (ht : t ≤ 8) (hf : f ≤ t) W => rsome_any x0 x1 x2 x3 x4 x5 x6 x7 f t ht hf hw W)
  have HTs := hid (tx_some xs hsz)
  have HTn := hid (tx_none xs hsz)
  rw [← hxs] at HZ HS ⊢
  clear hw hxs
  go_enter Tryz.func18, Tryz.ntmps18
  go_wp2_with fail
  generalize hw1 : w.alloc (.cells #[.int .i64 x0, .int .i64 x1, .int .i64 x2, .int .i64 x3, .int .i64 x4, .int .i64 x5, .int .i64 x6, .int .i64 x7] 33) = w1 at *
  clear hw1
  have HC : Hid (∀ W, Below w1.heap.size w1 W → _) := fun W h => row8i (HL.out.step h HG.out)
  clear HL
  go_loopw [3] (fun i wr => ∃ n : Nat, i = .int .i64 n ∧ 1 ≤ n ∧ n ≤ 8 ∧ Hid (Below w1.heap.size w1 wr) ∧ Hid (∀ m, n < m → ∀ b, b + m ≤ 8 → zrL xs b m = false)) (fun i _ => (intOf i).toNat)
  case atStart => exact ⟨8, rfl, by omega, by omega, Below.refl _ _, fun m h b h2 => absurd h2 (by omega)⟩
  case round =>
    obtain ⟨n, rfl, hn1, hn8, HW, HM⟩ := hrel
    by_cases hlt : 1 < n
    · have hlt' : (1 : Int) < (n : Int) := by omega
      go_wp2_with fail
      go_loopw [4] (fun i wq => ∃ b : Nat, i = .int .i64 b ∧ b ≤ 9 ∧ Hid (Below w1.heap.size w1 wq) ∧ Hid (∀ c, c < b → zrL xs c n = false)) (fun i _ => 9 - (intOf i).toNat)
      case atStart => exact ⟨0, rfl, by omega, HW, fun c h => absurd h (by omega)⟩
      case round =>
        obtain ⟨b, rfl, hb9, HW2, HF⟩ := hrel
        obtain ⟨e0, e1, e2, e3, e4, e5, e6, e7⟩ := HC.out _ HW2.out
        by_cases hin : b + n ≤ 8
        · have hin' : (b : Int) + (n : Int) ≤ 8 := by omega
          have HZ1 := hid (fun W => HZ.out b n hin W)
          cases hz : zrL xs b n
          · rw [hz] at HZ1
            have HF2 : Hid (∀ c, c < b + 1 → zrL xs c n = false) := fun c hc => by
              by_cases h : c = b
              · rw [h]; exact hz
              · exact HF.out c (by omega)
            clear hz
            go_wp2_with fail
            refine (HZ1.out _).mono ?_
            rintro e w2 ⟨rfl, hb⟩
            have HB2 := hid (HW2.out.trans (hb.mono HW2.out.size))
            clear hb e0 e1 e2 e3 e4 e5 e6 e7
            go_wp2_with fail
            go_roundw
            case rel => exact ⟨b + 1, by go_num, by omega, HB2, HF2⟩
            case measure => simp [intOf]; omega
          · rw [hz] at HZ1
            have HT := hid (HTs.out n b (by omega) hin hz HF.out HM.out)
            clear hz
            go_wp2_with fail
            refine (HZ1.out _).mono ?_
            rintro e w2 ⟨rfl, hb⟩
            have HB2 := hid (HW2.out.trans (hb.mono HW2.out.size))
            clear hb e0 e1 e2 e3 e4 e5 e6 e7
            have HS1 := hid (fun W => HS.out 0 b (by omega) (by omega) W)
            have HS2 := hid (fun W => HS.out (b + n) 8 (by omega) hin W)
            have e8 : xs.take 8 = xs := List.take_of_length_le (by omega)
            have ebn : ((b + n : Nat) : Int) = (b : Int) + (n : Int) := by omega
            rw [List.drop_zero] at HS1
            rw [e8, ebn] at HS2
            have hwr : IntKind.i64.wrap ((b : Int) + (n : Int)) = (b : Int) + (n : Int) := by rw [IntKind.wrap_i64]; omega
            have hl1 := wrT_len (xs.take b)
            have hl2 := wrT_len (xs.drop (b + n))
            have hz1 : (ByteArray.mk (wrT (xs.take b)).toArray).size ≤ 40 := by
              rw [ba_size]; rw [List.length_take] at hl1; omega
            have hz2 : (ByteArray.mk (wrT (xs.drop (b + n))).toArray).size ≤ 40 := by
              rw [ba_size]; rw [List.length_drop] at hl2; omega
            have HR : Hid ((ByteArray.mk (tx6 xs).toArray) = (ByteArray.mk (wrT (xs.take b)).toArray) ++ ⟨#[58, 58]⟩ ++ (ByteArray.mk (wrT (xs.drop (b + n))).toArray)) := by
              show _ = _
              apply bytes_ext
              rw [HT.out]
              simp
            clear hl1 hl2 HT e8 ebn HS HZ HZ1 HM HF
            generalize (ByteArray.mk (wrT (xs.take b)).toArray) = s1 at *
            generalize (ByteArray.mk (wrT (xs.drop (b + n))).toArray) = s2 at *
            have hzz : (s1 ++ (⟨#[58, 58]⟩ : ByteArray)).size ≤ 42 := by
              have h := ByteArray.size_append (a := s1) (b := (⟨#[58, 58]⟩ : ByteArray))
              have h2 : (ByteArray.mk #[58, 58]).size = 2 := rfl
              omega
            have HB3 := hid (HB2.out.drew)
            have F1 : True := trivial
            obtain ⟨e0, e1, e2, e3, e4, e5, e6, e7⟩ := HC.out _ HB2.out
            go_wp2_with fail
            go_region_with (first
                | (clear F1; go_at_call 39; refine (HS1.out _).mono ?_; rintro e w4 ⟨rfl, hb4⟩; have HA2 := hid (HB3.out.trans (hb4.mono HB3.out.size)); clear HB3; have HB3 := HA2; clear HA2 hb4; obtain ⟨f0, f1, f2, f3, f4, f5, f6, f7⟩ := HC.out _ HB3.out)
                | (go_at_call 39; refine (HS2.out _).mono ?_; rintro e w4 ⟨rfl, hb4⟩; have HA2 := hid (HB3.out.trans (hb4.mono HB3.out.size)); clear HB3; have HB3 := HA2; clear HA2 hb4))
            all_goals go_wp2_with fail
            all_goals go_ret
            all_goals exact ⟨by rw [HR.out]; rfl, HB.out.trans (HB3.out.mono HB.out.size)⟩
        · have hin' : ¬ (b : Int) + (n : Int) ≤ 8 := by omega
          have HM2 := hid (zr_one xs b n HM.out HF.out (by omega))
          go_wp2_with fail
          go_roundw
          case rel => exact ⟨n - 1, int_eq (by omega), by omega, by omega, HW2, HM2⟩
          case measure => simp [intOf]; omega
    · have hn : n = 1 := by omega
      subst hn
      obtain ⟨e0, e1, e2, e3, e4, e5, e6, e7⟩ := HC.out _ HW.out
      have HT := hid (HTn.out (fun m h b h2 => HM.out m (by omega) b h2))
      have HS1 := hid (fun W => HS.out 0 8 (by omega) (by omega) W)
      have e8 : xs.take 8 = xs := List.take_of_length_le (by omega)
      rw [List.drop_zero, e8, ← HT.out] at HS1
      clear e8
      go_wp2_with fail
      refine (HS1.out _).mono ?_
      rintro e w2 ⟨rfl, hb⟩
      have HB2 := hid (HW.out.trans (hb.mono HW.out.size))
      clear hb e0 e1 e2 e3 e4 e5 e6 e7
      go_wp2_with fail
      go_ret
      exact ⟨rfl, HB.out.trans (HB2.out.mono HB.out.size)⟩
end Ip
end Go.Proofs.YteimhepmcjdbpaaGreatDoor
