import Derived.Test.YteimhepmcjdbpaaGreatDoorIp23
import Derived.Test.YteimhepmcjdbpaaGreatDoorIp24
namespace Go.Proofs.YteimhepmcjdbpaaGreatDoor
open Go.RowKit
namespace Ip

theorem zr_succ (xs : List Int) (a m : Nat) (h : a + m < xs.length) : zrL xs a (m + 1) = (zrL xs a m && (xs[a + m] == 0)) := by
  unfold zrL
  rw [List.take_succ_eq_append_getElem (by rw [List.length_drop]; omega), List.all_append, List.getElem_drop]
  simp
theorem zr_less (xs : List Int) (a m n : Nat) (h : m ≤ n) (hz : zrL xs a n = true) : zrL xs a m = true := by
  unfold zrL at *
  refine List.all_eq_true.2 fun x hx => List.all_eq_true.1 hz x ?_
  have e : (xs.drop a).take m = ((xs.drop a).take n).take m := by rw [List.take_take, Nat.min_eq_left h]
  rw [e] at hx
  exact List.mem_of_mem_take hx

/-- Eight words in memory. -/
theorem box8i (w : World) (x0 x1 x2 x3 x4 x5 x6 x7 : Int) : Li (w.alloc (.cells #[.int .i64 x0, .int .i64 x1, .int .i64 x2, .int .i64 x3, .int .i64 x4, .int .i64 x5, .int .i64 x6, .int .i64 x7] 33)) w.heap.size (i64v [x0, x1, x2, x3, x4, x5, x6, x7]) := Li.new w _ _
theorem li_i64 {w : World} {g : Nat} {xs : List Int} (h : Li w g (i64v xs)) (k : Nat) (hk : k < xs.length) : w.cell? ⟨g, k, none⟩ = some (.int .i64 xs[k]) := by
  refine (h.at k _ ?_).1
  unfold i64v
  rw [List.getElem?_map, List.getElem?_eq_getElem hk]; rfl

set_option maxRecDepth 100000 in
set_option maxHeartbeats 4000000 in
theorem rzero_any (x0 x1 x2 x3 x4 x5 x6 x7 : Int) (a n : Nat) (h : a + n ≤ 8) (w : World) :
    Calls Tryz.prog 38 #[.agg #[.int .i64 x0, .int .i64 x1, .int .i64 x2, .int .i64 x3, .int .i64 x4, .int .i64 x5, .int .i64 x6, .int .i64 x7], .int .i64 a, .int .i64 n] w fun e w' => e = .returned (.bool (zrL [x0, x1, x2, x3, x4, x5, x6, x7] a n)) ∧ Below w.heap.size w w' := by
  have HB := hid ((Below.refl w.heap.size w).alloc (Nat.le_refl _) (.cells #[.int .i64 x0, .int .i64 x1, .int .i64 x2, .int .i64 x3, .int .i64 x4, .int .i64 x5, .int .i64 x6, .int .i64 x7] 33))
  obtain ⟨xs, hxs⟩ : ∃ xs, xs = [x0, x1, x2, x3, x4, x5, x6, x7] := ⟨_, rfl⟩
  have hsz : xs.length = 8 := by rw [hxs]; rfl
  have HL : Hid (∀ k (hk : k < xs.length), (w.alloc (.cells #[.int .i64 x0, .int .i64 x1, .int .i64 x2, .int .i64 x3, .int .i64 x4, .int .i64 x5, .int .i64 x6, .int .i64 x7] 33)).cell? ⟨w.heap.size, k, none⟩ = some (.int .i64 xs[k])) :=
    fun k hk => li_i64 (by rw [hxs]; exact box8i w x0 x1 x2 x3 x4 x5 x6 x7) k hk
  have HZ := hid (fun m (hm : a + m < xs.length) => zr_succ xs a m hm)
  have HLs := hid (fun m (hm : m ≤ n) => zr_less xs a m n hm)
  have h0 : zrL xs a 0 = true := by unfold zrL; rw [List.take_zero]; rfl
  have H0 := hid h0
  rw [← hxs]
  clear h0 hxs
  go_enter Tryz.func38, Tryz.ntmps38
  go_wp2_with fail
  generalize hw1 : w.alloc (.cells #[.int .i64 x0, .int .i64 x1, .int .i64 x2, .int .i64 x3, .int .i64 x4, .int .i64 x5, .int .i64 x6, .int .i64 x7] 33) = w1 at *
  clear hw1
  go_loop [7] (fun i => ∃ k : Nat, i = .int .i64 k ∧ a ≤ k ∧ k ≤ a + n ∧ Hid (zrL xs a (k - a) = true)) (fun i => a + n - (intOf i).toNat)
  case atStart => exact ⟨a, rfl, Nat.le_refl _, by omega, by rw [Nat.sub_self]; exact H0⟩
  case round =>
    obtain ⟨k, rfl, hk1, hk2, HQ⟩ := hrel
    by_cases hlt : k < a + n
    · have hk8 : k < xs.length := by omega
      have hc := HL.out k hk8
      have he := HZ.out (k - a) (by omega)
      have e1 : a + (k - a) = k := by omega
      have e2 : k - a + 1 = k + 1 - a := by omega
      simp only [e1] at he
      rw [e2, HQ.out, Bool.true_and] at he
      have HE := hid he
      clear he
      by_cases hz : xs[k] = 0
      · have hz' : (xs[k] != 0) = false := by rw [hz]; rfl
        have HQ2 : Hid (zrL xs a (k + 1 - a) = true) := by show _ = _; rw [HE.out, hz]; rfl
        clear hz
        go_wp2_with fail
        go_round
        case rel => exact ⟨k + 1, by go_num, by omega, by omega, HQ2⟩
        case measure => simp [intOf]; omega
      · have hz' : (xs[k] != 0) = true := by rw [bne_iff_ne]; exact hz
        have HQ2 : Hid (zrL xs a n = false) := by
          show _ = _
          cases hq : zrL xs a n with
          | false => rfl
          | true =>
            have := HLs.out (k + 1 - a) (by omega) hq
            rw [HE.out] at this
            exact absurd (by simpa using this) hz
        clear hz
        go_wp2_with fail
        go_ret
        exact ⟨ret_bool HQ2.out.symm, HB.out⟩
    · have hk : k = a + n := by omega
      have e3 : k - a = n := by omega
      rw [e3] at HQ
      go_wp2_with fail
      go_ret
      exact ⟨ret_bool HQ.out.symm, HB.out⟩

theorem rhexb_any (x : Int) (w : World) (h0 : 0 ≤ x) (h1 : x ≤ 65535) :
    Calls Tryz.prog 56 #[.int .i64 x] w fun e w' => e = .returned (.string ⟨(hxI x).toArray⟩) ∧ Below w.heap.size w w' := by
  obtain ⟨n, rfl⟩ := Int.eq_ofNat_of_zero_le h0
  refine (rhex_any n w (by omega)).mono ?_
  rintro e w' ⟨rfl, m, rfl⟩
  exact ⟨rfl, bel_drew (Below.refl _ _) m⟩

set_option maxRecDepth 100000 in
set_option maxHeartbeats 4000000 in
theorem rsome_any (x0 x1 x2 x3 x4 x5 x6 x7 : Int) (f t : Nat) (ht : t ≤ 8) (hft : f ≤ t) (hw : In6 [x0, x1, x2, x3, x4, x5, x6, x7]) (w : World) :
    Calls Tryz.prog 39 #[.agg #[.int .i64 x0, .int .i64 x1, .int .i64 x2, .int .i64 x3, .int .i64 x4, .int .i64 x5, .int .i64 x6, .int .i64 x7], .int .i64 f, .int .i64 t] w fun e w' => e = .returned (.string ⟨(wrT (([x0, x1, x2, x3, x4, x5, x6, x7].take t).drop f)).toArray⟩) ∧ Below w.heap.size w w' := by
  have HB := hid ((Below.refl w.heap.size w).alloc (Nat.le_refl _) (.cells #[.int .i64 x0, .int .i64 x1, .int .i64 x2, .int .i64 x3, .int .i64 x4, .int .i64 x5, .int .i64 x6, .int .i64 x7] 33))
  obtain ⟨xs, hxs⟩ : ∃ xs, xs = [x0, x1, x2, x3, x4, x5, x6, x7] := ⟨_, rfl⟩
  have hsz : xs.length = 8 := by rw [hxs]; rfl
  have HL : Hid (∀ k (hk : k < xs.length), (w.alloc (.cells #[.int .i64 x0, .int .i64 x1, .int .i64 x2, .int .i64 x3, .int .i64 x4, .int .i64 x5, .int .i64 x6, .int .i64 x7] 33)).cell? ⟨w.heap.size, k, none⟩ = some (.int .i64 xs[k])) :=
    fun k hk => li_i64 (by rw [hxs]; exact box8i w x0 x1 x2 x3 x4 x5 x6 x7) k hk
  rw [← hxs] at hw ⊢
  clear hxs
  have HG : Hid (w.heap.size < (w.alloc (.cells #[.int .i64 x0, .int .i64 x1, .int .i64 x2, .int .i64 x3, .int .i64 x4, .int .i64 x5, .int .i64 x6, .int .i64 x7] 33)).heap.size) := by show _ < _; simp
  have HI := hid hw
  clear hw
  go_enter Tryz.func39, Tryz.ntmps39
  go_wp2_with fail
  generalize hw1 : w.alloc (.cells #[.int .i64 x0, .int .i64 x1, .int .i64 x2, .int .i64 x3, .int .i64 x4, .int .i64 x5, .int .i64 x6, .int .i64 x7] 33) = w1 at *
  clear hw1
  go_loopw [7, 8] (fun o i wr => ∃ (k : Nat) (l : List UInt8), o = .string ⟨l.toArray⟩ ∧ i = .int .i64 k ∧ f ≤ k ∧ k ≤ t ∧ Hid (Below w1.heap.size w1 wr) ∧ l.length ≤ 5 * k ∧ Hid (l = wrT ((xs.take k).drop f))) (fun _ i _ => t - (intOf i).toNat)
  case atStart => exact ⟨f, [], rfl, rfl, Nat.le_refl _, hft, Below.refl _ _, Nat.zero_le _, by show _ = _; rw [List.drop_of_length_le (by rw [List.length_take]; omega)]; rfl⟩
  case round =>
    obtain ⟨k, l, rfl, rfl, hk1, hk2, HW, hl, HQ⟩ := hrel
    have hls : (⟨l.toArray⟩ : ByteArray).size ≤ 40 := by show l.toArray.size ≤ 40; simp; omega
    by_cases hlt : k < t
    · have hk8 : k < xs.length := by omega
      have hc : wr.cell? ⟨w.heap.size, k, none⟩ = some (.int .i64 xs[k]) := (HW.out.cell (p := ⟨w.heap.size, k, none⟩) HG.out).trans (HL.out k hk8)
      obtain ⟨g0, g1⟩ := HI.out xs[k] (List.getElem_mem hk8)
      have htk : (xs.take (k + 1)).drop f = (xs.take k).drop f ++ [xs[k]] := by
        rw [List.take_succ_eq_append_getElem hk8, List.drop_append_of_le_length (by rw [List.length_take]; omega)]
      have HS : Hid ((k = f → wrT ((xs.take (k + 1)).drop f) = l ++ hxI xs[k]) ∧ (f < k → wrT ((xs.take (k + 1)).drop f) = (l ++ [58]) ++ hxI xs[k])) := by
        refine ⟨fun h => ?_, fun h => ?_⟩
        · have e : (xs.take k).drop f = [] := List.drop_of_length_le (by rw [List.length_take]; omega)
          have e2 := HQ.out
          rw [e] at e2
          rw [htk, e, e2]; simp [wrT]
        · rw [htk, wrT_snoc _ _ (by intro e; have := congrArg List.length e; rw [List.length_drop, List.length_take, List.length_nil] at this; omega), ← HQ.out, List.append_assoc]
      have hxl := hxI_len xs[k]
      have HX := hid (fun W => rhexb_any xs[k] W g0 g1)
      have hrs : (⟨(hxI xs[k]).toArray⟩ : ByteArray).size ≤ 4 := by show (hxI xs[k]).toArray.size ≤ 4; simpa using hxl
      have E1 : Hid ((⟨l.toArray⟩ : ByteArray) ++ ⟨(hxI xs[k]).toArray⟩ = ⟨(l ++ hxI xs[k]).toArray⟩) := bytes_ext (by simp)
      have E2 : Hid ((⟨l.toArray⟩ : ByteArray) ++ ⟨#[58]⟩ ++ ⟨(hxI xs[k]).toArray⟩ = ⟨(l ++ [58] ++ hxI xs[k]).toArray⟩) := bytes_ext (by simp)
      have HXL := hid hxl
      have e58 : ((⟨l.toArray⟩ : ByteArray) ++ ⟨#[58]⟩).size ≤ 41 := by
        have h := ByteArray.size_append (a := (⟨l.toArray⟩ : ByteArray)) (b := (⟨#[58]⟩ : ByteArray))
        have h2 : (ByteArray.mk #[58]).size = 1 := rfl
        omega
      clear htk hxl
      generalize hr : (⟨(hxI xs[k]).toArray⟩ : ByteArray) = r at *
      clear hr
      generalize hxI xs[k] = hx at *
      have HLL : Hid (l.length ≤ 5 * k) := hl
      generalize hll : (⟨l.toArray⟩ : ByteArray) = bl at *
      clear hll
      by_cases hk0 : k = f
      · have H1 := hid (HS.out.1 hk0)
        have hk0' : ¬ (f : Int) < (k : Int) := by omega
        clear HS e58 E2 hk0
        go_wp2_with fail
        refine (HX.out _).mono ?_
        rintro e w2 ⟨rfl, hb⟩
        have HB2 := hid (HW.out.trans (hb.mono HW.out.size))
        clear hb
        go_wp2_with fail
        go_roundw
        case rel => exact ⟨k + 1, l ++ hx, by rw [E1.out], by go_num, by omega, by omega, HB2.out, by rw [List.length_append]; have := HXL.out; have := HLL.out; omega, H1.out.symm⟩
        case measure => simp [intOf]; omega
      · have H1 := hid (HS.out.2 (by omega))
        have hk0' : (f : Int) < (k : Int) := by omega
        clear HS E1
        go_wp2_with fail
        refine (HX.out _).mono ?_
        rintro e w2 ⟨rfl, hb⟩
        have HB2 := hid (HW.out.trans (hb.mono HW.out.size))
        clear hb
        go_wp2_with fail
        go_roundw
        case rel => exact ⟨k + 1, l ++ [58] ++ hx, by rw [E2.out], by go_num, by omega, by omega, HB2.out, by rw [List.length_append, List.length_append]; have := HXL.out; have := HLL.out; show l.length + 1 + _ ≤ _; omega, H1.out.symm⟩
        case measure => simp [intOf]; omega
    · have hk : k = t := by omega
      subst hk
      go_wp2_with fail
      go_ret
      exact ⟨by rw [HQ.out]; rfl, HB.out.trans (HW.out.mono (by have := HB.out.size; exact this))⟩
end Ip
end Go.Proofs.YteimhepmcjdbpaaGreatDoor
