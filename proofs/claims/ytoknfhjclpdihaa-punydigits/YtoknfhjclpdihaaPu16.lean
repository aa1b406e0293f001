import Derived.Test.YtoknfhjclpdihaaPu15
namespace Go.Proofs.Ytoknfhjclpdihaa
namespace Pu
open Go.RowKit Od

theorem byt_app (a b : List Int) : byt (a ++ b) = byt a ++ byt b := by
  unfold byt
  apply ByteArray.ext
  simp
theorem byt_size (a : List Int) : (byt a).size = a.length := by
  show (a.map (fun n => UInt8.ofNat n.toNat)).toArray.size = _
  simp
theorem dgs_cut : (List.range 36).all (fun i => (dgs.extract i (i + 1)).data.toList == [UInt8.ofNat (dgP i).toNat]) = true := by kernel_rfl
theorem dgs_ext (i : Nat) (h : i < 36) : dgs.extract i (i + 1) = byt [dgP i] := by
  have := List.all_eq_true.1 dgs_cut i (List.mem_range.2 h)
  rw [beq_iff_eq] at this
  unfold byt
  apply ByteArray.ext
  apply Array.ext'
  rw [this]
  rfl
set_option maxRecDepth 100000 in
set_option maxHeartbeats 4000000 in
theorem rwrite_any (d b : Int) (w : World) (h0 : 0 ≤ d) (h1 : d ≤ 2147483647) (hb : -1000000000 ≤ b ∧ b ≤ 1000000000) :
    Calls Try.prog 28 #[.int .i64 d, .int .i64 b] w fun e w' => e = .returned (.string (byt (wrP d b))) ∧ w' = w := by
  have HT := hid (fun (k : Int) (W : World) (hk : 0 ≤ k ∧ k ≤ 1000000000000) => rthr_any k b W (by omega) (by omega))
  have HX : Hid (∀ i : Nat, i < 36 → ({ data := #[97, 98, 99, 100, 101, 102, 103, 104, 105, 106, 107, 108, 109, 110, 111, 112, 113, 114, 115, 116, 117, 118, 119, 120, 121, 122, 48, 49, 50, 51, 52, 53, 54, 55, 56, 57] } : ByteArray).extract i (i + 1) = byt [dgP i]) := hid dgs_ext
  go_enter Try.func28, Try.ntmps28
  go_wp2_with fail
  go_loopg [0, 5, 6] (d.toNat + 1) (fun gg vd vs vk wr => ∃ (dc k : Int) (acc : List Int), vd = .int .i64 dc ∧ vk = .int .i64 k ∧ vs = .string (byt acc) ∧ wr = w ∧ 0 ≤ dc ∧ dc ≤ 2147483647 ∧ 0 ≤ k ∧ k + 36 * dc ≤ 36 + 36 * d ∧ gg = dc.toNat + 1 ∧ Hid (acc ++ wrF (dc.toNat + 1) dc k b = wrP d b))
  case atStart => exact ⟨d, 36, [], rfl, rfl, rfl, rfl, h0, h1, by omega, by omega, rfl, rfl⟩
  case round =>
    obtain ⟨dc, k, acc, rfl, rfl, rfl, rfl, c0, c1, k0, k1, hg, H⟩ := hrel
    have HG := hid hg
    have HTk := hid (HT.out k wr (by omega))
    have ht := th_bd k b
    have hsz : ∀ x : Int, ¬ 9223372036854775807 < (byt acc).size + (byt [x]).size := fun x => by
      have h2 := congrArg List.length H.out
      have h3 : (wrP d b).length ≤ 11 := wr_short 10 _ d 36 b h0 (by omega)
      rw [List.length_append] at h2
      rw [byt_size, byt_size]
      simp
      omega
    have HW : Hid (wrF (dc.toNat + 1) dc k b = if dc < thP k b then [dgP dc] else dgP (thP k b + (dc - thP k b) % (36 - thP k b)) :: wrF dc.toNat ((dc - thP k b) / (36 - thP k b)) (k + 36) b) := rfl
    have HQ : Hid (¬ dc < thP k b → 0 ≤ (dc - thP k b) / (36 - thP k b) ∧ (dc - thP k b) / (36 - thP k b) < dc) := q_lt dc k b
    clear hg h0 hb
    generalize thP k b = t at *
    by_cases hd : dc < t
    · have HE : Hid (acc ++ [dgP dc] = wrP d b) := by show _ = _; rw [← H.out, HW.out, if_pos hd]
      obtain ⟨dn, rfl⟩ : ∃ dn : Nat, dc = dn := ⟨dc.toNat, by omega⟩
      have hx := HX.out dn (by omega)
      have q1 : ((dn : Int) + 1).toNat = dn + 1 := by omega
      have q2 : (dn : Int) + 1 ≤ 36 := by omega
      have q3 : (dn : Int) ≤ (dn : Int) + 1 := by omega
      have q4 : (0 : Int) ≤ (dn : Int) + 1 := by omega
      have q5 : dn + 1 ≤ 36 := by omega
      clear HW HQ
      go_wp2_with fail
      refine HTk.out.mono ?_
      rintro e w1 ⟨rfl, rfl⟩
      have hs2 := hsz (dgP (dn : Int))
      clear hsz
      go_wp2_with fail
      go_ret
      exact ⟨by rw [← HE.out, byt_app]; rfl, rfl⟩
    · obtain ⟨q0, q1⟩ := HQ.out hd
      obtain ⟨r, hr⟩ : ∃ r, (dc - t) % (36 - t) = r := ⟨_, rfl⟩
      obtain ⟨q, hq⟩ : ∃ q, (dc - t) / (36 - t) = q := ⟨_, rfl⟩
      have r0 : 0 ≤ r := by rw [← hr]; exact Int.emod_nonneg _ (by omega)
      have r1 : r < 36 - t := by rw [← hr]; exact Int.emod_lt_of_pos _ (by omega)
      rw [hq] at q0 q1 HW
      rw [hr] at HW
      have HE : Hid ((acc ++ [dgP (t + r)]) ++ wrF (q.toNat + 1) q (k + 36) b = wrP d b) := by
        show _ = _
        rw [← H.out, HW.out, if_neg hd, wrF_eq (q.toNat + 1) dc.toNat q (k + 36) b q0 (by omega) (by omega)]
        simp
      obtain ⟨x, hx⟩ : ∃ x : Nat, t + r = x := ⟨(t + r).toNat, by omega⟩
      have hx3 := HX.out x (by omega)
      have g1 : ¬ (36 - t = 0) := by omega
      have g2 : ¬ dc < t := hd
      have q11 : ((x : Int) + 1).toNat = x + 1 := by omega
      have q12 : (x : Int) + 1 ≤ 36 := by omega
      have q13 : (x : Int) ≤ (x : Int) + 1 := by omega
      have q14 : (0 : Int) ≤ (x : Int) + 1 := by omega
      have q15 : x + 1 ≤ 36 := by omega
      have hs2 := hsz (dgP (x : Int))
      rw [hx] at HE
      clear HW HQ hd hsz
      go_wp2_with fail
      refine HTk.out.mono ?_
      rintro e w1 ⟨rfl, rfl⟩
      go_wp2_with fail
      go_roundg (q.toNat + 1)
      case measure => rw [HG.out]; omega
      case rel => exact ⟨q, k + 36, acc ++ [dgP (x : Int)], by first | rfl | (rw [hq]), by go_num, by rw [byt_app], rfl, q0, by omega, by omega, by omega, rfl, HE.out⟩
end Pu
end Go.Proofs.Ytoknfhjclpdihaa
