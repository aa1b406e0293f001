import Derived.Test.YteimhepmcjdbpaaGreatDoorIp20
namespace Go.Proofs.YteimhepmcjdbpaaGreatDoor
open Go.RowKit
namespace Ip

theorem set_next8 (ns : List Int) (k : Nat) (x : Int) (h : ns.length = k) (hk : k < 8) : (ns ++ List.replicate (8 - k) 0).set k x = (ns ++ [x]) ++ List.replicate (8 - (k + 1)) 0 := by
  subst h
  obtain ⟨m, hm⟩ : ∃ m, 8 - ns.length = m + 1 := ⟨7 - ns.length, by omega⟩
  have hm2 : 8 - (ns.length + 1) = m := by omega
  rw [hm, hm2, List.replicate_succ, List.set_append_right _ _ (Nat.le_refl _), Nat.sub_self]
  simp
theorem start8 (xs ys : List Int) (h : ¬ 7 < xs.length + ys.length) : xs ++ List.replicate (8 - xs.length) 0 = xs ++ List.replicate (8 - xs.length - ys.length) 0 ++ ys.take 0 ++ List.replicate (ys.length - 0) 0 := by
  rw [List.take_zero, List.append_nil, Nat.sub_zero, List.append_assoc, List.replicate_append_replicate]
  have : 8 - xs.length = 8 - xs.length - ys.length + ys.length := by omega
  rw [← this]
theorem set_last8 (xs ys : List Int) (k : Nat) (h : ¬ 7 < xs.length + ys.length) (hk : k < ys.length) : (xs ++ List.replicate (8 - xs.length - ys.length) 0 ++ ys.take k ++ List.replicate (ys.length - k) 0).set (8 - ys.length + k) ys[k] = xs ++ List.replicate (8 - xs.length - ys.length) 0 ++ ys.take (k + 1) ++ List.replicate (ys.length - (k + 1)) 0 := by
  have hl : (xs ++ List.replicate (8 - xs.length - ys.length) 0 ++ ys.take k).length = 8 - ys.length + k := by simp; omega
  rw [List.set_append_right _ _ (by rw [hl]; exact Nat.le_refl _), hl, Nat.sub_self]
  obtain ⟨m, hm⟩ : ∃ m, ys.length - k = m + 1 := ⟨ys.length - k - 1, by omega⟩
  have hm2 : ys.length - (k + 1) = m := by omega
  rw [hm, hm2, List.replicate_succ, List.take_succ_eq_append_getElem hk]
  simp only [List.set_cons_zero, List.append_assoc, List.cons_append, List.nil_append]
theorem cc_ext' (s : ByteArray) (k : Nat) (h : k + 1 < s.size) : ((s.extract k (k + 2)).toList == [58, 58]) = ccB s.data.toList k := by
  have e : (⟨#[58, 58]⟩ : ByteArray).toList = [58, 58] := by rw [ByteArray.toList_eq]
  rw [← e]; exact cc_ext s k h

set_option maxRecDepth 100000 in
set_option maxHeartbeats 4000000 in
theorem rv6_any (s : ByteArray) (w : World) (hs : s.size ≤ 1000) :
    Calls Tryz.prog 10 #[.string s] w fun e w' => e = .returned (.tuple #[.agg (i64v (rv6L s.data.toList).1).toArray, .bool (rv6L s.data.toList).2]) ∧ Below w.heap.size w w' := by
  have HX := hid (fun (k : Nat) (h : k + 1 < s.size) => cc_ext' s k h)
  have L0 := hid (Li.new w #[.int .i64 0, .int .i64 0, .int .i64 0, .int .i64 0, .int .i64 0, .int .i64 0, .int .i64 0, .int .i64 0] 33)
  have M0 := hid (L0.out.step ((Below.refl _ _).alloc (Nat.le_refl _) (.cells #[.int .i64 0, .int .i64 0, .int .i64 0, .int .i64 0, .int .i64 0, .int .i64 0, .int .i64 0, .int .i64 0] 33)) (by simp))
  have hs1 : (w.alloc (.cells #[.int .i64 0, .int .i64 0, .int .i64 0, .int .i64 0, .int .i64 0, .int .i64 0, .int .i64 0, .int .i64 0] 33)).heap.size = w.heap.size + 1 := by simp
  have l1 := Li.new (w.alloc (.cells #[.int .i64 0, .int .i64 0, .int .i64 0, .int .i64 0, .int .i64 0, .int .i64 0, .int .i64 0, .int .i64 0] 33)) #[.int .i64 0, .int .i64 0, .int .i64 0, .int .i64 0, .int .i64 0, .int .i64 0, .int .i64 0, .int .i64 0] 33
  rw [hs1] at l1
  have M1 := hid l1
  have HO := hid ((Ok.start w).alloc (o := (.cells #[.int .i64 0, .int .i64 0, .int .i64 0, .int .i64 0, .int .i64 0, .int .i64 0, .int .i64 0, .int .i64 0] 33)) |>.alloc (o := (.cells #[.int .i64 0, .int .i64 0, .int .i64 0, .int .i64 0, .int .i64 0, .int .i64 0, .int .i64 0, .int .i64 0] 33)))
  have hs2 : Hid (((w.alloc (.cells #[.int .i64 0, .int .i64 0, .int .i64 0, .int .i64 0, .int .i64 0, .int .i64 0, .int .i64 0, .int .i64 0] 33)).alloc (.cells #[.int .i64 0, .int .i64 0, .int .i64 0, .int .i64 0, .int .i64 0, .int .i64 0, .int .i64 0, .int .i64 0] 33)).heap.size = w.heap.size + 2) := by show _ = _; simp
  clear l1 hs1 L0
  go_enter Tryz.func10, Tryz.ntmps10
  go_wp2_with fail
  go_loop [5, 6] (fun at_ i => ∃ k : Nat, at_ = .int .i64 (ccI s.data.toList k) ∧ i = .int .i64 k ∧ k ≤ s.size) (fun _ i => s.size - (intOf i).toNat)
  case atStart => exact ⟨0, rfl, rfl, Nat.zero_le _⟩
  case round =>
    obtain ⟨k, rfl, rfl, hk⟩ := hrel
    by_cases hlt : k + 1 < s.size
    · have hx := HX.out k hlt
      have hst : ccI s.data.toList (k + 1) = if ccI s.data.toList k < 0 ∧ ccB s.data.toList k = true then (k : Int) else ccI s.data.toList k := rfl
      have hlt' : (k : Int) + 1 < (s.size : Int) := by omega
      by_cases h0 : ccI s.data.toList k < 0
      · cases hb : ccB s.data.toList k
        · rw [hb] at hx hst
          rw [if_neg (by rintro ⟨_, h⟩; cases h)] at hst
          have HS := hid hst
          clear hb hst
          generalize ccI s.data.toList k = n at *
          go_wp2_with fail
          go_round
          case rel => exact ⟨k + 1, by rw [HS.out], by go_num, by omega⟩
          case measure => simp [intOf]; omega
        · rw [hb] at hx hst
          rw [if_pos ⟨h0, rfl⟩] at hst
          have HS := hid hst
          clear hb hst
          generalize ccI s.data.toList k = n at *
          go_wp2_with fail
          go_round
          case rel => exact ⟨k + 1, by rw [HS.out], by go_num, by omega⟩
          case measure => simp [intOf]; omega
      · rw [if_neg (fun h => h0 h.1)] at hst
        have HS := hid hst
        clear hst hx
        generalize ccI s.data.toList k = n at *
        go_wp2_with fail
        go_round
        case rel => exact ⟨k + 1, by rw [HS.out], by go_num, by omega⟩
        case measure => simp [intOf]; omega
    · have hlt' : ¬ (k : Int) + 1 < (s.size : Int) := by omega
      by_cases h0 : ccI s.data.toList k < 0
      · obtain ⟨h1, h2⟩ := ccI_no s.data.toList k h0
        have HF : Hid ((cuG [58, 58] s.data.toList).2.2 = false) := cc_none _ (fun j hj => by
          by_cases e : j < k
          · exact h2 j e
          · exact cc_last _ j (by rw [len_size]; omega))
        rw [h1]
        clear h1 h2 h0
        have HR := hid (fun W => rrow_any s W hs)
        go_wp2_with fail
        refine (HR.out _).mono ?_
        rintro e w1 ⟨(⟨xs, v, hr, rfl, hN, hgb⟩ | ⟨hr, rfl⟩), hb1⟩
        · have H1 := hid hb1
          have HN := hid hN
          clear hb1 hN
          obtain ⟨g, cap, rfl, hgl, hgc⟩ := HN.out
          have hxl : xs.length ≤ 100000 := by have := roL_len _ _ hr; rw [len_size] at this; omega
          have hg2 : Hid (w.heap.size + 2 ≤ g) := by have h := hgb g rfl; rw [hs2.out] at h; exact h
          clear hgb
          by_cases h8 : xs.length = 8
          · have HV : Hid (rv6L s.data.toList = (xs, true)) := by
              show _ = _; unfold rv6L; rw [if_pos HF.out, hr]
              show (if _ then _ else _) = _
              rw [if_pos h8]
            have HC := hid hgc
            have H8 := hid h8
            have HO1 := hid (HO.out.step H1.out)
            have N0 := hid (M0.out.step H1.out (by rw [hs2.out]; omega))
            have N1 := hid (M1.out.step H1.out (by rw [hs2.out]; omega))
            have HGl := hid hgl
            rw [h8]
            clear hr hgc M0 M1 HO h8 hxl hgl HN
            go_wp2_with fail
            go_loopw [9] (fun i wr => ∃ k : Nat, i = .int .i64 k ∧ k ≤ 8 ∧ Hid (Ok w.heap.size w wr) ∧ Hid (Li wr w.heap.size (i64v [0, 0, 0, 0, 0, 0, 0, 0])) ∧ Hid (Li wr (w.heap.size + 1) (i64v (xs.take k ++ List.replicate (8 - k) 0))) ∧ Hid (∀ j (h : j < xs.length), wr.cell? ⟨g, j, none⟩ = some (.int .i64 xs[j]))) (fun i _ => 8 - (intOf i).toNat)
            case atStart => exact ⟨0, rfl, by omega, HO1, N0, N1, HC⟩
            case round =>
              obtain ⟨k, rfl, hk, PO, P0, P1, PC⟩ := hrel
              clear HC N0 N1 HO1
              by_cases hlt : k < 8
              · have hkx : k < xs.length := by rw [H8.out]; exact hlt
                have cx := PC.out k hkx
                have HS : Hid (xs.take (k + 1) = xs.take k ++ [xs[k]]) := by show _ = _; rw [List.take_succ_eq_append_getElem hkx]
                have HT : Hid ((xs.take k).length = k) := by show _ = _; rw [List.length_take]; omega
                generalize xs[k] = x at *
                have hck : ∃ v, (i64v (xs.take k ++ List.replicate (8 - k) 0))[k]? = some v := ⟨_, List.getElem?_eq_getElem (by rw [i64v_len]; have := HT.out; simp; omega)⟩
                obtain ⟨v0, hck⟩ := hck
                obtain ⟨ck, zk⟩ := P1.out.at k v0 hck
                have N0 := hid (P0.out.other ⟨w.heap.size + 1, k, none⟩ (.int .i64 x) (by simp))
                have N1 := hid (P1.out.set k (.int .i64 x))
                have NC : Hid (∀ j (h : j < xs.length), (wr.setCell ⟨w.heap.size + 1, k, none⟩ (.int .i64 x)).cell? ⟨g, j, none⟩ = some (.int .i64 xs[j])) := fun j hj => by
                  rw [World.cell?_setCell_other _ _ _ _ (by intro e; have := hg2.out; injection e with e1 _ _; omega)]
                  exact PC.out j hj
                have NO : Hid (Ok w.heap.size w (wr.setCell ⟨w.heap.size + 1, k, none⟩ (.int .i64 x))) := by
                  have h1 := PO.out.2
                  exact ⟨PO.out.1.setCell (by simp) _, by simpa [World.setCell] using h1⟩
                clear P0 P1 PC PO hck
                go_wp2_with fail
                go_roundw
                case rel =>
                  refine ⟨k + 1, by go_num, by omega, NO, N0, ?_, NC⟩
                  have := N1.out
                  rw [i64v_set, set_next8 (xs.take k) k x HT.out hlt, ← HS.out] at this
                  exact this
                case measure => simp [intOf]; omega
              · have hk8 : k = 8 := by omega
                subst hk8
                obtain ⟨v0, v1, v2, v3, v4, v5, v6, v7, rfl⟩ := eight H8.out
                obtain ⟨c0, z0⟩ := P0.out.at 0 _ rfl
                obtain ⟨c1, z1⟩ := P0.out.at 1 _ rfl
                obtain ⟨c2, z2⟩ := P0.out.at 2 _ rfl
                obtain ⟨c3, z3⟩ := P0.out.at 3 _ rfl
                obtain ⟨c4, z4⟩ := P0.out.at 4 _ rfl
                obtain ⟨c5, z5⟩ := P0.out.at 5 _ rfl
                obtain ⟨c6, z6⟩ := P0.out.at 6 _ rfl
                obtain ⟨c7, z7⟩ := P0.out.at 7 _ rfl
                obtain ⟨d0, y0⟩ := P1.out.at 0 _ rfl
                obtain ⟨d1, y1⟩ := P1.out.at 1 _ rfl
                obtain ⟨d2, y2⟩ := P1.out.at 2 _ rfl
                obtain ⟨d3, y3⟩ := P1.out.at 3 _ rfl
                obtain ⟨d4, y4⟩ := P1.out.at 4 _ rfl
                obtain ⟨d5, y5⟩ := P1.out.at 5 _ rfl
                obtain ⟨d6, y6⟩ := P1.out.at 6 _ rfl
                obtain ⟨d7, y7⟩ := P1.out.at 7 _ rfl
                clear P0 P1 PC
                go_wp2_with fail
                refine bodyPost_ret (v := .tuple #[.agg #[.int .i64 v0, .int .i64 v1, .int .i64 v2, .int .i64 v3, .int .i64 v4, .int .i64 v5, .int .i64 v6, .int .i64 v7], .bool true]) (by simp [results, Tryz.results10, go_sem, c0, c1, c2, c3, c4, c5, c6, c7]) rfl ⟨by rw [HV.out]; rfl, ((((((((PO.out.1.setCell (Nat.le_refl _) _).setCell (Nat.le_refl _) _).setCell (Nat.le_refl _) _).setCell (Nat.le_refl _) _).setCell (Nat.le_refl _) _).setCell (Nat.le_refl _) _).setCell (Nat.le_refl _) _).setCell (Nat.le_refl _) _)⟩
          · have HV : Hid (rv6L s.data.toList = (z8, false)) := by
              show _ = _; unfold rv6L; rw [if_pos HF.out, hr]
              show (if _ then _ else _) = _
              rw [if_neg h8]
            have hq : (((xs.length : Nat) : Int) == 8) = false := by rw [beq_eq_false_iff_ne]; omega
            clear hr hgc
            generalize xs.length = m at *
            have HO1 := hid (HO.out.step H1.out)
            have N0 := hid (M0.out.step H1.out (by rw [hs2.out]; omega))
            have N1 := hid (M1.out.step H1.out (by rw [hs2.out]; omega))
            obtain ⟨c0, z0⟩ := N0.out.at 0 _ rfl
            obtain ⟨c1, z1⟩ := N0.out.at 1 _ rfl
            obtain ⟨c2, z2⟩ := N0.out.at 2 _ rfl
            obtain ⟨c3, z3⟩ := N0.out.at 3 _ rfl
            obtain ⟨c4, z4⟩ := N0.out.at 4 _ rfl
            obtain ⟨c5, z5⟩ := N0.out.at 5 _ rfl
            obtain ⟨c6, z6⟩ := N0.out.at 6 _ rfl
            obtain ⟨c7, z7⟩ := N0.out.at 7 _ rfl
            obtain ⟨d0, y0⟩ := N1.out.at 0 _ rfl
            obtain ⟨d1, y1⟩ := N1.out.at 1 _ rfl
            obtain ⟨d2, y2⟩ := N1.out.at 2 _ rfl
            obtain ⟨d3, y3⟩ := N1.out.at 3 _ rfl
            obtain ⟨d4, y4⟩ := N1.out.at 4 _ rfl
            obtain ⟨d5, y5⟩ := N1.out.at 5 _ rfl
            obtain ⟨d6, y6⟩ := N1.out.at 6 _ rfl
            obtain ⟨d7, y7⟩ := N1.out.at 7 _ rfl
            clear N0 N1 M0 M1
            go_wp2_with fail
            refine bodyPost_ret (v := .tuple #[.agg #[.int .i64 0, .int .i64 0, .int .i64 0, .int .i64 0, .int .i64 0, .int .i64 0, .int .i64 0, .int .i64 0], .bool false]) (by simp [results, Tryz.results10, go_sem, c0, c1, c2, c3, c4, c5, c6, c7]) rfl ⟨by rw [HV.out]; rfl, ((((((((HO1.out.1.setCell (Nat.le_refl _) _).setCell (Nat.le_refl _) _).setCell (Nat.le_refl _) _).setCell (Nat.le_refl _) _).setCell (Nat.le_refl _) _).setCell (Nat.le_refl _) _).setCell (Nat.le_refl _) _).setCell (Nat.le_refl _) _)⟩
        · have H1 := hid hb1
          have HV : Hid (rv6L s.data.toList = (z8, false)) := by show _ = _; unfold rv6L; rw [if_pos HF.out, hr]
          clear hb1 hr
          have HO1 := hid (HO.out.step H1.out)
          have N0 := hid (M0.out.step H1.out (by rw [hs2.out]; omega))
          have N1 := hid (M1.out.step H1.out (by rw [hs2.out]; omega))
          obtain ⟨c0, z0⟩ := N0.out.at 0 _ rfl
          obtain ⟨c1, z1⟩ := N0.out.at 1 _ rfl
          obtain ⟨c2, z2⟩ := N0.out.at 2 _ rfl
          obtain ⟨c3, z3⟩ := N0.out.at 3 _ rfl
          obtain ⟨c4, z4⟩ := N0.out.at 4 _ rfl
          obtain ⟨c5, z5⟩ := N0.out.at 5 _ rfl
          obtain ⟨c6, z6⟩ := N0.out.at 6 _ rfl
          obtain ⟨c7, z7⟩ := N0.out.at 7 _ rfl
          obtain ⟨d0, y0⟩ := N1.out.at 0 _ rfl
          obtain ⟨d1, y1⟩ := N1.out.at 1 _ rfl
          obtain ⟨d2, y2⟩ := N1.out.at 2 _ rfl
          obtain ⟨d3, y3⟩ := N1.out.at 3 _ rfl
          obtain ⟨d4, y4⟩ := N1.out.at 4 _ rfl
          obtain ⟨d5, y5⟩ := N1.out.at 5 _ rfl
          obtain ⟨d6, y6⟩ := N1.out.at 6 _ rfl
          obtain ⟨d7, y7⟩ := N1.out.at 7 _ rfl
          clear N0 N1 M0 M1
          go_wp2_with fail
          refine bodyPost_ret (v := .tuple #[.agg #[.int .i64 0, .int .i64 0, .int .i64 0, .int .i64 0, .int .i64 0, .int .i64 0, .int .i64 0, .int .i64 0], .bool false]) (by simp [results, Tryz.results10, go_sem, c0, c1, c2, c3, c4, c5, c6, c7]) rfl ⟨by rw [HV.out]; rfl, ((((((((HO1.out.1.setCell (Nat.le_refl _) _).setCell (Nat.le_refl _) _).setCell (Nat.le_refl _) _).setCell (Nat.le_refl _) _).setCell (Nat.le_refl _) _).setCell (Nat.le_refl _) _).setCell (Nat.le_refl _) _).setCell (Nat.le_refl _) _)⟩
      · obtain ⟨n, h1, h2, h3, h4⟩ := ccI_yes s.data.toList k (by omega)
        have HF := hid (cc_first n s.data.toList (by rw [len_size]; omega) h3 h4)
        have hn : n + 2 ≤ s.size := by
          rcases Nat.lt_or_ge s.size (n + 2) with h | h
          · rw [cc_last _ n (by rw [len_size]; omega)] at h3; cases h3
          · exact h
        rw [h1]
        clear h1 h2 h3 h4 h0
        have HRV : Hid (rv6L s.data.toList = match roL (s.data.toList.take n), roL (s.data.toList.drop (n + 2)) with
            | some hs, some ts => if hs.length + ts.length ≤ 7 ∧ ¬ (46 : UInt8) ∈ s.data.toList.take n then (hs ++ List.replicate (8 - hs.length - ts.length) 0 ++ ts, true) else (z8, false)
            | _, _ => (z8, false)) := by
          show _ = _; unfold rv6L; rw [HF.out, if_neg (fun h => Bool.noConfusion h)]; rfl
        have ea : (s.extract 0 n).data.toList = s.data.toList.take n := by rw [ext_list]; simp
        have eb : (s.extract (n + 2) s.size).data.toList = s.data.toList.drop (n + 2) := by
          rw [ext_list]; exact List.take_of_length_le (by rw [List.length_drop, len_size]; exact Nat.le_refl _)
        have HRa := hid (fun W => rrow_any (s.extract 0 n) W (by have : (s.extract 0 n).data.toList.length ≤ 1000 := by { rw [ea, List.length_take, len_size]; omega }; rw [len_size] at this; exact this))
        have HRb := hid (fun W => rrow_any (s.extract (n + 2) s.size) W (by have : (s.extract (n + 2) s.size).data.toList.length ≤ 1000 := by { rw [eb, List.length_drop, len_size]; omega }; rw [len_size] at this; exact this))
        have HIn := hid (fun W => in_any 46 (s.extract 0 n) W (by have : (s.extract 0 n).data.toList.length ≤ 1000 := by { rw [ea, List.length_take, len_size]; omega }; rw [len_size] at this; unfold maxLen; omega))
        have hla : ∀ xs, roL (s.data.toList.take n) = some xs → xs.length ≤ 100000 := fun xs h => by have := roL_len _ _ h; rw [List.length_take, len_size] at this; omega
        have hlb : ∀ xs, roL (s.data.toList.drop (n + 2)) = some xs → xs.length ≤ 100000 := fun xs h => by have := roL_len _ _ h; rw [List.length_drop, len_size] at this; omega
        have HLa := hid hla
        have HLb := hid hlb
        rw [ea] at HRa HIn
        rw [eb] at HRb
        have h46 : inB 46 (s.data.toList.take n) = true ↔ (46 : UInt8) ∈ s.data.toList.take n := by
          unfold inB
          rw [List.any_eq_true]
          constructor
          · rintro ⟨x, hx, h⟩
            have : x = 46 := UInt8.toNat_inj.1 (by have := beq_iff_eq.1 h; simp; omega)
            rwa [this] at hx
          · exact fun h => ⟨46, h, rfl⟩
        have H46 := hid h46
        have H0 : Hid (n = 0 → ¬ (46 : UInt8) ∈ s.data.toList.take n) := by intro e; subst e; simp
        clear ea eb hla hlb h46
        generalize s.data.toList.take n = A at *
        generalize s.data.toList.drop (n + 2) = Bl at *
        have hnn : ¬ (n : Int) < 0 := by omega
        go_wp2_with fail
        refine (HRa.out _).mono ?_
        rintro e w1 ⟨(⟨xs, v, hr, rfl, hN, hgb⟩ | ⟨hr, rfl⟩), hb1⟩
        · have H1 := hid hb1
          have HN := hid hN
          have hxl := HLa.out _ hr
          have HXr := hid hr
          clear hb1 hN hr
          obtain ⟨g, cap, rfl, hgl, hgc⟩ := HN.out
          have HC := hid hgc
          have HGl := hid hgl
          have hg2 : Hid (w.heap.size + 2 ≤ g) := by have h := hgb g rfl; rw [hs2.out] at h; exact h
          clear hgb hgc hgl HN
          go_wp2_with fail
          refine (HRb.out _).mono ?_
          rintro e w2 ⟨(⟨ys, v, hr, rfl, hN, hgb⟩ | ⟨hr, rfl⟩), hb2⟩
          · have H2 := hid hb2
            have HN := hid hN
            have hyl := HLb.out _ hr
            have HYr := hid hr
            clear hb2 hN hr
            obtain ⟨g', cap', rfl, hgl, hgc⟩ := HN.out
            have HC' := hid hgc
            have HGl' := hid hgl
            have hg2' : Hid (w.heap.size + 2 ≤ g') := by have h := hgb g' rfl; have h1 := H1.out.size; rw [hs2.out] at h1; show _ ≤ _; omega
            clear hgb hgc hgl HN
            by_cases h7 : 7 < xs.length + ys.length
            · have HV : Hid (rv6L s.data.toList = (z8, false)) := by
                show _ = _; rw [HRV.out, HXr.out, HYr.out]
                show (if _ then _ else _) = _
                rw [if_neg (by omega)]
              have h7' : (7 : Int) < (xs.length : Int) + (ys.length : Int) := by omega
              clear HC HC' HXr HYr
              generalize xs.length = m at *
              generalize ys.length = m' at *
              have HO1 := hid ((HO.out.step H1.out).step H2.out)
              have N0 := hid ((M0.out.step H1.out (by rw [hs2.out]; omega)).step H2.out (by have := H1.out.size; rw [hs2.out] at this; omega))
              have N1 := hid ((M1.out.step H1.out (by rw [hs2.out]; omega)).step H2.out (by have := H1.out.size; rw [hs2.out] at this; omega))
              obtain ⟨c0, z0⟩ := N0.out.at 0 _ rfl
              obtain ⟨c1, z1⟩ := N0.out.at 1 _ rfl
              obtain ⟨c2, z2⟩ := N0.out.at 2 _ rfl
              obtain ⟨c3, z3⟩ := N0.out.at 3 _ rfl
              obtain ⟨c4, z4⟩ := N0.out.at 4 _ rfl
              obtain ⟨c5, z5⟩ := N0.out.at 5 _ rfl
              obtain ⟨c6, z6⟩ := N0.out.at 6 _ rfl
              obtain ⟨c7, z7⟩ := N0.out.at 7 _ rfl
              obtain ⟨d0, y0⟩ := N1.out.at 0 _ rfl
              obtain ⟨d1, y1⟩ := N1.out.at 1 _ rfl
              obtain ⟨d2, y2⟩ := N1.out.at 2 _ rfl
              obtain ⟨d3, y3⟩ := N1.out.at 3 _ rfl
              obtain ⟨d4, y4⟩ := N1.out.at 4 _ rfl
              obtain ⟨d5, y5⟩ := N1.out.at 5 _ rfl
              obtain ⟨d6, y6⟩ := N1.out.at 6 _ rfl
              obtain ⟨d7, y7⟩ := N1.out.at 7 _ rfl
              clear N0 N1 M0 M1
              go_wp2_with fail
              refine bodyPost_ret (v := .tuple #[.agg #[.int .i64 0, .int .i64 0, .int .i64 0, .int .i64 0, .int .i64 0, .int .i64 0, .int .i64 0, .int .i64 0], .bool false]) (by simp [results, Tryz.results10, go_sem, c0, c1, c2, c3, c4, c5, c6, c7]) rfl ⟨by rw [HV.out]; rfl, ((((((((HO1.out.1.setCell (Nat.le_refl _) _).setCell (Nat.le_refl _) _).setCell (Nat.le_refl _) _).setCell (Nat.le_refl _) _).setCell (Nat.le_refl _) _).setCell (Nat.le_refl _) _).setCell (Nat.le_refl _) _).setCell (Nat.le_refl _) _)⟩
            · have h7' : ¬ (7 : Int) < (xs.length : Int) + (ys.length : Int) := by omega
              by_cases hA : (46 : UInt8) ∈ A
              · have HV : Hid (rv6L s.data.toList = (z8, false)) := by
                  show _ = _; rw [HRV.out, HXr.out, HYr.out]
                  show (if _ then _ else _) = _
                  rw [if_neg (fun h => h.2 hA)]
                have hn0 : (0 : Int) < (n : Int) := by
                  rcases Nat.eq_zero_or_pos n with e | e
                  · exact absurd hA (H0.out e)
                  · omega
                have hi : inB 46 A = true := H46.out.2 hA
                rw [hi] at HIn
                clear hi hA HC HC' HXr HYr h7
                generalize xs.length = m at *
                generalize ys.length = m' at *
                have HO1 := hid ((HO.out.step H1.out).step H2.out)
                have N0 := hid ((M0.out.step H1.out (by rw [hs2.out]; omega)).step H2.out (by have := H1.out.size; rw [hs2.out] at this; omega))
                have N1 := hid ((M1.out.step H1.out (by rw [hs2.out]; omega)).step H2.out (by have := H1.out.size; rw [hs2.out] at this; omega))
                obtain ⟨c0, z0⟩ := N0.out.at 0 _ rfl
                obtain ⟨c1, z1⟩ := N0.out.at 1 _ rfl
                obtain ⟨c2, z2⟩ := N0.out.at 2 _ rfl
                obtain ⟨c3, z3⟩ := N0.out.at 3 _ rfl
                obtain ⟨c4, z4⟩ := N0.out.at 4 _ rfl
                obtain ⟨c5, z5⟩ := N0.out.at 5 _ rfl
                obtain ⟨c6, z6⟩ := N0.out.at 6 _ rfl
                obtain ⟨c7, z7⟩ := N0.out.at 7 _ rfl
                obtain ⟨d0, y0⟩ := N1.out.at 0 _ rfl
                obtain ⟨d1, y1⟩ := N1.out.at 1 _ rfl
                obtain ⟨d2, y2⟩ := N1.out.at 2 _ rfl
                obtain ⟨d3, y3⟩ := N1.out.at 3 _ rfl
                obtain ⟨d4, y4⟩ := N1.out.at 4 _ rfl
                obtain ⟨d5, y5⟩ := N1.out.at 5 _ rfl
                obtain ⟨d6, y6⟩ := N1.out.at 6 _ rfl
                obtain ⟨d7, y7⟩ := N1.out.at 7 _ rfl
                clear N0 N1 M0 M1
                go_wp2_with (go_at_call 24; refine (HIn.out _).mono ?_; rintro e w' ⟨rfl, rfl⟩)
                refine bodyPost_ret (v := .tuple #[.agg #[.int .i64 0, .int .i64 0, .int .i64 0, .int .i64 0, .int .i64 0, .int .i64 0, .int .i64 0, .int .i64 0], .bool false]) (by simp [results, Tryz.results10, go_sem, c0, c1, c2, c3, c4, c5, c6, c7]) rfl ⟨by rw [HV.out]; rfl, ((((((((HO1.out.1.setCell (Nat.le_refl _) _).setCell (Nat.le_refl _) _).setCell (Nat.le_refl _) _).setCell (Nat.le_refl _) _).setCell (Nat.le_refl _) _).setCell (Nat.le_refl _) _).setCell (Nat.le_refl _) _).setCell (Nat.le_refl _) _)⟩
              · have HV : Hid (rv6L s.data.toList = (xs ++ List.replicate (8 - xs.length - ys.length) 0 ++ ys, true)) := by
                  show _ = _; rw [HRV.out, HXr.out, HYr.out]
                  show (if _ then _ else _) = _
                  rw [if_pos ⟨by omega, hA⟩]
                have hi : inB 46 A = false := by
                  cases h : inB 46 A
                  · rfl
                  · exact absurd (H46.out.1 h) hA
                rw [hi] at HIn
                clear hi hA HXr HYr
                rcases Nat.eq_zero_or_pos n with hn | hn
                · have hn0 : ¬ (0 : Int) < (n : Int) := by omega
                  clear hn
                  have HO1 := hid ((HO.out.step H1.out).step H2.out)
                  have N0 := hid ((M0.out.step H1.out (by rw [hs2.out]; omega)).step H2.out (by have := H1.out.size; rw [hs2.out] at this; omega))
                  have N1 := hid ((M1.out.step H1.out (by rw [hs2.out]; omega)).step H2.out (by have := H1.out.size; rw [hs2.out] at this; omega))
                  have C1 : Hid (∀ j (h : j < xs.length), w2.cell? ⟨g, j, none⟩ = some (.int .i64 xs[j])) := fun j hj => (H2.out.cell (p := ⟨g, j, none⟩) HGl.out).trans (HC.out j hj)
                  have H7 := hid h7
                  clear M0 M1 HO HC h7
                  go_wp2_with fail
                  go_loopw [14] (fun i wr => ∃ k : Nat, i = .int .i64 k ∧ k ≤ xs.length ∧ Hid (Ok w.heap.size w wr) ∧ Hid (Li wr w.heap.size (i64v [0, 0, 0, 0, 0, 0, 0, 0])) ∧ Hid (Li wr (w.heap.size + 1) (i64v (xs.take k ++ List.replicate (8 - k) 0))) ∧ Hid (∀ j (h : j < xs.length), wr.cell? ⟨g, j, none⟩ = some (.int .i64 xs[j])) ∧ Hid (∀ j (h : j < ys.length), wr.cell? ⟨g', j, none⟩ = some (.int .i64 ys[j]))) (fun i _ => xs.length - (intOf i).toNat)
                  case atStart => exact ⟨0, rfl, Nat.zero_le _, HO1, N0, N1, C1, HC'⟩
                  case round =>
                    obtain ⟨k, rfl, hk, PO, P0, P1, PC, PC'⟩ := hrel
                    clear C1 HC' N0 N1 HO1
                    by_cases hkx : k < xs.length
                    · have cx := PC.out k hkx
                      have HS : Hid (xs.take (k + 1) = xs.take k ++ [xs[k]]) := by show _ = _; rw [List.take_succ_eq_append_getElem hkx]
                      have HT : Hid ((xs.take k).length = k) := by show _ = _; rw [List.length_take]; omega
                      have hk8 : k < 8 := by have := H7.out; omega
                      generalize xs[k] = x at *
                      have hck : ∃ v, (i64v (xs.take k ++ List.replicate (8 - k) 0))[k]? = some v := ⟨_, List.getElem?_eq_getElem (by rw [i64v_len]; have := HT.out; simp; omega)⟩
                      obtain ⟨v0, hck⟩ := hck
                      obtain ⟨ck, zk⟩ := P1.out.at k v0 hck
                      have N0 := hid (P0.out.other ⟨w.heap.size + 1, k, none⟩ (.int .i64 x) (by simp))
                      have N1 := hid (P1.out.set k (.int .i64 x))
                      have NC : Hid (∀ j (h : j < xs.length), (wr.setCell ⟨w.heap.size + 1, k, none⟩ (.int .i64 x)).cell? ⟨g, j, none⟩ = some (.int .i64 xs[j])) := fun j hj => by
                        rw [World.cell?_setCell_other _ _ _ _ (by intro e; have := hg2.out; injection e with e1 _ _; omega)]
                        exact PC.out j hj
                      have NC' : Hid (∀ j (h : j < ys.length), (wr.setCell ⟨w.heap.size + 1, k, none⟩ (.int .i64 x)).cell? ⟨g', j, none⟩ = some (.int .i64 ys[j])) := fun j hj => by
                        rw [World.cell?_setCell_other _ _ _ _ (by intro e; have := hg2'.out; injection e with e1 _ _; omega)]
                        exact PC'.out j hj
                      have NO : Hid (Ok w.heap.size w (wr.setCell ⟨w.heap.size + 1, k, none⟩ (.int .i64 x))) := by
                        have h1 := PO.out.2
                        exact ⟨PO.out.1.setCell (by simp) _, by simpa [World.setCell] using h1⟩
                      clear P0 P1 PC PC' PO hck
                      go_wp2_with fail
                      go_roundw
                      case rel =>
                        refine ⟨k + 1, by go_num, by omega, NO, N0, ?_, NC, NC'⟩
                        have := N1.out
                        rw [i64v_set, set_next8 (xs.take k) k x HT.out hk8, ← HS.out] at this
                        exact this
                      case measure => simp [intOf]; omega
                    · have hkm : k = xs.length := by omega
                      subst hkm
                      have Q1 : Hid (Li wr (w.heap.size + 1) (i64v (xs ++ List.replicate (8 - xs.length - ys.length) 0 ++ ys.take 0 ++ List.replicate (ys.length - 0) 0))) := by
                        have h := P1.out
                        rw [List.take_of_length_le (Nat.le_refl _), start8 xs ys H7.out] at h
                        exact h
                      clear P1 PC
                      go_wp2_with fail
                      go_loopw [15] (fun i wr => ∃ k : Nat, i = .int .i64 k ∧ k ≤ ys.length ∧ Hid (Ok w.heap.size w wr) ∧ Hid (Li wr w.heap.size (i64v [0, 0, 0, 0, 0, 0, 0, 0])) ∧ Hid (Li wr (w.heap.size + 1) (i64v (xs ++ List.replicate (8 - xs.length - ys.length) 0 ++ ys.take k ++ List.replicate (ys.length - k) 0))) ∧ Hid (∀ j (h : j < ys.length), wr.cell? ⟨g', j, none⟩ = some (.int .i64 ys[j]))) (fun i _ => ys.length - (intOf i).toNat)
                      case atStart => exact ⟨0, rfl, Nat.zero_le _, PO, P0, Q1, PC'⟩
                      case round =>
                        obtain ⟨k, rfl, hk, PO, P0, P1, PC⟩ := hrel
                        clear Q1
                        by_cases hkx : k < ys.length
                        · have cx := PC.out k hkx
                          have HS := hid (set_last8 xs ys k H7.out hkx)
                          have HT : Hid (xs.length + ys.length ≤ 7) := by have := H7.out; show _ ≤ _; omega
                          generalize ys[k] = x at *
                          obtain ⟨j, hj⟩ : ∃ j, j = 8 - ys.length + k := ⟨_, rfl⟩
                          have hj2 : (8 : Int) - (ys.length : Int) + (k : Int) = (j : Int) := by have := HT.out; omega
                          have hj8 : j < 8 := by have := HT.out; omega
                          rw [← hj] at HS
                          have hck : ∃ v, (i64v (xs ++ List.replicate (8 - xs.length - ys.length) 0 ++ ys.take k ++ List.replicate (ys.length - k) 0))[j]? = some v := ⟨_, List.getElem?_eq_getElem (by rw [i64v_len]; have := HT.out; simp; omega)⟩
                          obtain ⟨v0, hck⟩ := hck
                          obtain ⟨ck, zk⟩ := P1.out.at j v0 hck
                          have N0 := hid (P0.out.other ⟨w.heap.size + 1, j, none⟩ (.int .i64 x) (by simp))
                          have N1 := hid (P1.out.set j (.int .i64 x))
                          have NC : Hid (∀ i (h : i < ys.length), (wr.setCell ⟨w.heap.size + 1, j, none⟩ (.int .i64 x)).cell? ⟨g', i, none⟩ = some (.int .i64 ys[i])) := fun i hi => by
                            rw [World.cell?_setCell_other _ _ _ _ (by intro e; have := hg2'.out; injection e with e1 _ _; omega)]
                            exact PC.out i hi
                          have NO : Hid (Ok w.heap.size w (wr.setCell ⟨w.heap.size + 1, j, none⟩ (.int .i64 x))) := by
                            have h1 := PO.out.2
                            exact ⟨PO.out.1.setCell (by simp) _, by simpa [World.setCell] using h1⟩
                          clear P0 P1 PC PO hck hj
                          go_wp2_with fail
                          go_roundw
                          case rel =>
                            refine ⟨k + 1, by go_num, by omega, NO, N0, ?_, NC⟩
                            have := N1.out
                            rw [i64v_set, HS.out] at this
                            exact this
                          case measure => simp [intOf]; omega
                        · have hkm : k = ys.length := by omega
                          subst hkm
                          have Q1 := hid P1.out
                          rw [List.take_of_length_le (Nat.le_refl _), Nat.sub_self, List.replicate_zero, List.append_nil] at Q1
                          clear P1 PC
                          obtain ⟨v0, v1, v2, v3, v4, v5, v6, v7, he⟩ := eight (l := xs ++ List.replicate (8 - xs.length - ys.length) 0 ++ ys) (by have := H7.out; simp; omega)
                          rw [he] at Q1 HV
                          have HE := hid he
                          clear he
                          obtain ⟨c0, z0⟩ := P0.out.at 0 _ rfl
                          obtain ⟨c1, z1⟩ := P0.out.at 1 _ rfl
                          obtain ⟨c2, z2⟩ := P0.out.at 2 _ rfl
                          obtain ⟨c3, z3⟩ := P0.out.at 3 _ rfl
                          obtain ⟨c4, z4⟩ := P0.out.at 4 _ rfl
                          obtain ⟨c5, z5⟩ := P0.out.at 5 _ rfl
                          obtain ⟨c6, z6⟩ := P0.out.at 6 _ rfl
                          obtain ⟨c7, z7⟩ := P0.out.at 7 _ rfl
                          obtain ⟨d0, y0⟩ := Q1.out.at 0 _ rfl
                          obtain ⟨d1, y1⟩ := Q1.out.at 1 _ rfl
                          obtain ⟨d2, y2⟩ := Q1.out.at 2 _ rfl
                          obtain ⟨d3, y3⟩ := Q1.out.at 3 _ rfl
                          obtain ⟨d4, y4⟩ := Q1.out.at 4 _ rfl
                          obtain ⟨d5, y5⟩ := Q1.out.at 5 _ rfl
                          obtain ⟨d6, y6⟩ := Q1.out.at 6 _ rfl
                          obtain ⟨d7, y7⟩ := Q1.out.at 7 _ rfl
                          clear P0 Q1
                          go_wp2_with fail
                          refine bodyPost_ret (v := .tuple #[.agg #[.int .i64 v0, .int .i64 v1, .int .i64 v2, .int .i64 v3, .int .i64 v4, .int .i64 v5, .int .i64 v6, .int .i64 v7], .bool true]) (by simp [results, Tryz.results10, go_sem, c0, c1, c2, c3, c4, c5, c6, c7]) rfl ⟨by rw [HV.out]; rfl, ((((((((PO.out.1.setCell (Nat.le_refl _) _).setCell (Nat.le_refl _) _).setCell (Nat.le_refl _) _).setCell (Nat.le_refl _) _).setCell (Nat.le_refl _) _).setCell (Nat.le_refl _) _).setCell (Nat.le_refl _) _).setCell (Nat.le_refl _) _)⟩
                · have hn0 : (0 : Int) < (n : Int) := by omega
                  have HO1 := hid ((HO.out.step H1.out).step H2.out)
                  have N0 := hid ((M0.out.step H1.out (by rw [hs2.out]; omega)).step H2.out (by have := H1.out.size; rw [hs2.out] at this; omega))
                  have N1 := hid ((M1.out.step H1.out (by rw [hs2.out]; omega)).step H2.out (by have := H1.out.size; rw [hs2.out] at this; omega))
                  have C1 : Hid (∀ j (h : j < xs.length), w2.cell? ⟨g, j, none⟩ = some (.int .i64 xs[j])) := fun j hj => (H2.out.cell (p := ⟨g, j, none⟩) HGl.out).trans (HC.out j hj)
                  have H7 := hid h7
                  clear M0 M1 HO HC h7
                  go_wp2_with (go_at_call 24; refine (HIn.out _).mono ?_; rintro e w' ⟨rfl, rfl⟩)
                  go_loopw [14] (fun i wr => ∃ k : Nat, i = .int .i64 k ∧ k ≤ xs.length ∧ Hid (Ok w.heap.size w wr) ∧ Hid (Li wr w.heap.size (i64v [0, 0, 0, 0, 0, 0, 0, 0])) ∧ Hid (Li wr (w.heap.size + 1) (i64v (xs.take k ++ List.replicate (8 - k) 0))) ∧ Hid (∀ j (h : j < xs.length), wr.cell? ⟨g, j, none⟩ = some (.int .i64 xs[j])) ∧ Hid (∀ j (h : j < ys.length), wr.cell? ⟨g', j, none⟩ = some (.int .i64 ys[j]))) (fun i _ => xs.length - (intOf i).toNat)
                  case atStart => exact ⟨0, rfl, Nat.zero_le _, HO1, N0, N1, C1, HC'⟩
                  case round =>
                    obtain ⟨k, rfl, hk, PO, P0, P1, PC, PC'⟩ := hrel
                    clear C1 HC' N0 N1 HO1
                    by_cases hkx : k < xs.length
                    · have cx := PC.out k hkx
                      have HS : Hid (xs.take (k + 1) = xs.take k ++ [xs[k]]) := by show _ = _; rw [List.take_succ_eq_append_getElem hkx]
                      have HT : Hid ((xs.take k).length = k) := by show _ = _; rw [List.length_take]; omega
                      have hk8 : k < 8 := by have := H7.out; omega
                      generalize xs[k] = x at *
                      have hck : ∃ v, (i64v (xs.take k ++ List.replicate (8 - k) 0))[k]? = some v := ⟨_, List.getElem?_eq_getElem (by rw [i64v_len]; have := HT.out; simp; omega)⟩
                      obtain ⟨v0, hck⟩ := hck
                      obtain ⟨ck, zk⟩ := P1.out.at k v0 hck
                      have N0 := hid (P0.out.other ⟨w.heap.size + 1, k, none⟩ (.int .i64 x) (by simp))
                      have N1 := hid (P1.out.set k (.int .i64 x))
                      have NC : Hid (∀ j (h : j < xs.length), (wr.setCell ⟨w.heap.size + 1, k, none⟩ (.int .i64 x)).cell? ⟨g, j, none⟩ = some (.int .i64 xs[j])) := fun j hj => by
                        rw [World.cell?_setCell_other _ _ _ _ (by intro e; have := hg2.out; injection e with e1 _ _; omega)]
                        exact PC.out j hj
                      have NC' : Hid (∀ j (h : j < ys.length), (wr.setCell ⟨w.heap.size + 1, k, none⟩ (.int .i64 x)).cell? ⟨g', j, none⟩ = some (.int .i64 ys[j])) := fun j hj => by
                        rw [World.cell?_setCell_other _ _ _ _ (by intro e; have := hg2'.out; injection e with e1 _ _; omega)]
                        exact PC'.out j hj
                      have NO : Hid (Ok w.heap.size w (wr.setCell ⟨w.heap.size + 1, k, none⟩ (.int .i64 x))) := by
                        have h1 := PO.out.2
                        exact ⟨PO.out.1.setCell (by simp) _, by simpa [World.setCell] using h1⟩
                      clear P0 P1 PC PC' PO hck
                      go_wp2_with fail
                      go_roundw
                      case rel =>
                        refine ⟨k + 1, by go_num, by omega, NO, N0, ?_, NC, NC'⟩
                        have := N1.out
                        rw [i64v_set, set_next8 (xs.take k) k x HT.out hk8, ← HS.out] at this
                        exact this
                      case measure => simp [intOf]; omega
                    · have hkm : k = xs.length := by omega
                      subst hkm
                      have Q1 : Hid (Li wr (w.heap.size + 1) (i64v (xs ++ List.replicate (8 - xs.length - ys.length) 0 ++ ys.take 0 ++ List.replicate (ys.length - 0) 0))) := by
                        have h := P1.out
                        rw [List.take_of_length_le (Nat.le_refl _), start8 xs ys H7.out] at h
                        exact h
                      clear P1 PC
                      go_wp2_with fail
                      go_loopw [15] (fun i wr => ∃ k : Nat, i = .int .i64 k ∧ k ≤ ys.length ∧ Hid (Ok w.heap.size w wr) ∧ Hid (Li wr w.heap.size (i64v [0, 0, 0, 0, 0, 0, 0, 0])) ∧ Hid (Li wr (w.heap.size + 1) (i64v (xs ++ List.replicate (8 - xs.length - ys.length) 0 ++ ys.take k ++ List.replicate (ys.length - k) 0))) ∧ Hid (∀ j (h : j < ys.length), wr.cell? ⟨g', j, none⟩ = some (.int .i64 ys[j]))) (fun i _ => ys.length - (intOf i).toNat)
                      case atStart => exact ⟨0, rfl, Nat.zero_le _, PO, P0, Q1, PC'⟩
                      case round =>
                        obtain ⟨k, rfl, hk, PO, P0, P1, PC⟩ := hrel
                        clear Q1
                        by_cases hkx : k < ys.length
                        · have cx := PC.out k hkx
                          have HS := hid (set_last8 xs ys k H7.out hkx)
                          have HT : Hid (xs.length + ys.length ≤ 7) := by have := H7.out; show _ ≤ _; omega
                          generalize ys[k] = x at *
                          obtain ⟨j, hj⟩ : ∃ j, j = 8 - ys.length + k := ⟨_, rfl⟩
                          have hj2 : (8 : Int) - (ys.length : Int) + (k : Int) = (j : Int) := by have := HT.out; omega
                          have hj8 : j < 8 := by have := HT.out; omega
                          rw [← hj] at HS
                          have hck : ∃ v, (i64v (xs ++ List.replicate (8 - xs.length - ys.length) 0 ++ ys.take k ++ List.replicate (ys.length - k) 0))[j]? = some v := ⟨_, List.getElem?_eq_getElem (by rw [i64v_len]; have := HT.out; simp; omega)⟩
                          obtain ⟨v0, hck⟩ := hck
                          obtain ⟨ck, zk⟩ := P1.out.at j v0 hck
                          have N0 := hid (P0.out.other ⟨w.heap.size + 1, j, none⟩ (.int .i64 x) (by simp))
                          have N1 := hid (P1.out.set j (.int .i64 x))
                          have NC : Hid (∀ i (h : i < ys.length), (wr.setCell ⟨w.heap.size + 1, j, none⟩ (.int .i64 x)).cell? ⟨g', i, none⟩ = some (.int .i64 ys[i])) := fun i hi => by
                            rw [World.cell?_setCell_other _ _ _ _ (by intro e; have := hg2'.out; injection e with e1 _ _; omega)]
                            exact PC.out i hi
                          have NO : Hid (Ok w.heap.size w (wr.setCell ⟨w.heap.size + 1, j, none⟩ (.int .i64 x))) := by
                            have h1 := PO.out.2
                            exact ⟨PO.out.1.setCell (by simp) _, by simpa [World.setCell] using h1⟩
                          clear P0 P1 PC PO hck hj
                          go_wp2_with fail
                          go_roundw
                          case rel =>
                            refine ⟨k + 1, by go_num, by omega, NO, N0, ?_, NC⟩
                            have := N1.out
                            rw [i64v_set, HS.out] at this
                            exact this
                          case measure => simp [intOf]; omega
                        · have hkm : k = ys.length := by omega
                          subst hkm
                          have Q1 := hid P1.out
                          rw [List.take_of_length_le (Nat.le_refl _), Nat.sub_self, List.replicate_zero, List.append_nil] at Q1
                          clear P1 PC
                          obtain ⟨v0, v1, v2, v3, v4, v5, v6, v7, he⟩ := eight (l := xs ++ List.replicate (8 - xs.length - ys.length) 0 ++ ys) (by have := H7.out; simp; omega)
                          rw [he] at Q1 HV
                          have HE := hid he
                          clear he
                          obtain ⟨c0, z0⟩ := P0.out.at 0 _ rfl
                          obtain ⟨c1, z1⟩ := P0.out.at 1 _ rfl
                          obtain ⟨c2, z2⟩ := P0.out.at 2 _ rfl
                          obtain ⟨c3, z3⟩ := P0.out.at 3 _ rfl
                          obtain ⟨c4, z4⟩ := P0.out.at 4 _ rfl
                          obtain ⟨c5, z5⟩ := P0.out.at 5 _ rfl
                          obtain ⟨c6, z6⟩ := P0.out.at 6 _ rfl
                          obtain ⟨c7, z7⟩ := P0.out.at 7 _ rfl
                          obtain ⟨d0, y0⟩ := Q1.out.at 0 _ rfl
                          obtain ⟨d1, y1⟩ := Q1.out.at 1 _ rfl
                          obtain ⟨d2, y2⟩ := Q1.out.at 2 _ rfl
                          obtain ⟨d3, y3⟩ := Q1.out.at 3 _ rfl
                          obtain ⟨d4, y4⟩ := Q1.out.at 4 _ rfl
                          obtain ⟨d5, y5⟩ := Q1.out.at 5 _ rfl
                          obtain ⟨d6, y6⟩ := Q1.out.at 6 _ rfl
                          obtain ⟨d7, y7⟩ := Q1.out.at 7 _ rfl
                          clear P0 Q1
                          go_wp2_with fail
                          refine bodyPost_ret (v := .tuple #[.agg #[.int .i64 v0, .int .i64 v1, .int .i64 v2, .int .i64 v3, .int .i64 v4, .int .i64 v5, .int .i64 v6, .int .i64 v7], .bool true]) (by simp [results, Tryz.results10, go_sem, c0, c1, c2, c3, c4, c5, c6, c7]) rfl ⟨by rw [HV.out]; rfl, ((((((((PO.out.1.setCell (Nat.le_refl _) _).setCell (Nat.le_refl _) _).setCell (Nat.le_refl _) _).setCell (Nat.le_refl _) _).setCell (Nat.le_refl _) _).setCell (Nat.le_refl _) _).setCell (Nat.le_refl _) _).setCell (Nat.le_refl _) _)⟩
          · have H2 := hid hb2
            have HV : Hid (rv6L s.data.toList = (z8, false)) := by show _ = _; rw [HRV.out, HXr.out, hr]
            clear hb2 hr HXr HC
            generalize xs.length = m at *
            have HO1 := hid ((HO.out.step H1.out).step H2.out)
            have N0 := hid ((M0.out.step H1.out (by rw [hs2.out]; omega)).step H2.out (by have := H1.out.size; rw [hs2.out] at this; omega))
            have N1 := hid ((M1.out.step H1.out (by rw [hs2.out]; omega)).step H2.out (by have := H1.out.size; rw [hs2.out] at this; omega))
            obtain ⟨c0, z0⟩ := N0.out.at 0 _ rfl
            obtain ⟨c1, z1⟩ := N0.out.at 1 _ rfl
            obtain ⟨c2, z2⟩ := N0.out.at 2 _ rfl
            obtain ⟨c3, z3⟩ := N0.out.at 3 _ rfl
            obtain ⟨c4, z4⟩ := N0.out.at 4 _ rfl
            obtain ⟨c5, z5⟩ := N0.out.at 5 _ rfl
            obtain ⟨c6, z6⟩ := N0.out.at 6 _ rfl
            obtain ⟨c7, z7⟩ := N0.out.at 7 _ rfl
            obtain ⟨d0, y0⟩ := N1.out.at 0 _ rfl
            obtain ⟨d1, y1⟩ := N1.out.at 1 _ rfl
            obtain ⟨d2, y2⟩ := N1.out.at 2 _ rfl
            obtain ⟨d3, y3⟩ := N1.out.at 3 _ rfl
            obtain ⟨d4, y4⟩ := N1.out.at 4 _ rfl
            obtain ⟨d5, y5⟩ := N1.out.at 5 _ rfl
            obtain ⟨d6, y6⟩ := N1.out.at 6 _ rfl
            obtain ⟨d7, y7⟩ := N1.out.at 7 _ rfl
            clear N0 N1 M0 M1
            go_wp2_with fail
            refine bodyPost_ret (v := .tuple #[.agg #[.int .i64 0, .int .i64 0, .int .i64 0, .int .i64 0, .int .i64 0, .int .i64 0, .int .i64 0, .int .i64 0], .bool false]) (by simp [results, Tryz.results10, go_sem, c0, c1, c2, c3, c4, c5, c6, c7]) rfl ⟨by rw [HV.out]; rfl, ((((((((HO1.out.1.setCell (Nat.le_refl _) _).setCell (Nat.le_refl _) _).setCell (Nat.le_refl _) _).setCell (Nat.le_refl _) _).setCell (Nat.le_refl _) _).setCell (Nat.le_refl _) _).setCell (Nat.le_refl _) _).setCell (Nat.le_refl _) _)⟩
        · have H1 := hid hb1
          have HV : Hid (rv6L s.data.toList = (z8, false)) := by show _ = _; rw [HRV.out, hr]
          clear hb1 hr
          go_wp2_with fail
          refine (HRb.out _).mono ?_
          rintro e w2 ⟨(⟨ys, v, hr, rfl, hN, hgb⟩ | ⟨hr, rfl⟩), hb2⟩
          · have H2 := hid hb2
            clear hb2 hr hgb hN
            have HO1 := hid ((HO.out.step H1.out).step H2.out)
            have N0 := hid ((M0.out.step H1.out (by rw [hs2.out]; omega)).step H2.out (by have := H1.out.size; rw [hs2.out] at this; omega))
            have N1 := hid ((M1.out.step H1.out (by rw [hs2.out]; omega)).step H2.out (by have := H1.out.size; rw [hs2.out] at this; omega))
            obtain ⟨c0, z0⟩ := N0.out.at 0 _ rfl
            obtain ⟨c1, z1⟩ := N0.out.at 1 _ rfl
            obtain ⟨c2, z2⟩ := N0.out.at 2 _ rfl
            obtain ⟨c3, z3⟩ := N0.out.at 3 _ rfl
            obtain ⟨c4, z4⟩ := N0.out.at 4 _ rfl
            obtain ⟨c5, z5⟩ := N0.out.at 5 _ rfl
            obtain ⟨c6, z6⟩ := N0.out.at 6 _ rfl
            obtain ⟨c7, z7⟩ := N0.out.at 7 _ rfl
            obtain ⟨d0, y0⟩ := N1.out.at 0 _ rfl
            obtain ⟨d1, y1⟩ := N1.out.at 1 _ rfl
            obtain ⟨d2, y2⟩ := N1.out.at 2 _ rfl
            obtain ⟨d3, y3⟩ := N1.out.at 3 _ rfl
            obtain ⟨d4, y4⟩ := N1.out.at 4 _ rfl
            obtain ⟨d5, y5⟩ := N1.out.at 5 _ rfl
            obtain ⟨d6, y6⟩ := N1.out.at 6 _ rfl
            obtain ⟨d7, y7⟩ := N1.out.at 7 _ rfl
            clear N0 N1 M0 M1
            go_wp2_with fail
            refine bodyPost_ret (v := .tuple #[.agg #[.int .i64 0, .int .i64 0, .int .i64 0, .int .i64 0, .int .i64 0, .int .i64 0, .int .i64 0, .int .i64 0], .bool false]) (by simp [results, Tryz.results10, go_sem, c0, c1, c2, c3, c4, c5, c6, c7]) rfl ⟨by rw [HV.out]; rfl, ((((((((HO1.out.1.setCell (Nat.le_refl _) _).setCell (Nat.le_refl _) _).setCell (Nat.le_refl _) _).setCell (Nat.le_refl _) _).setCell (Nat.le_refl _) _).setCell (Nat.le_refl _) _).setCell (Nat.le_refl _) _).setCell (Nat.le_refl _) _)⟩
          · have H2 := hid hb2
            clear hb2 hr
            have HO1 := hid ((HO.out.step H1.out).step H2.out)
            have N0 := hid ((M0.out.step H1.out (by rw [hs2.out]; omega)).step H2.out (by have := H1.out.size; rw [hs2.out] at this; omega))
            have N1 := hid ((M1.out.step H1.out (by rw [hs2.out]; omega)).step H2.out (by have := H1.out.size; rw [hs2.out] at this; omega))
            obtain ⟨c0, z0⟩ := N0.out.at 0 _ rfl
            obtain ⟨c1, z1⟩ := N0.out.at 1 _ rfl
            obtain ⟨c2, z2⟩ := N0.out.at 2 _ rfl
            obtain ⟨c3, z3⟩ := N0.out.at 3 _ rfl
            obtain ⟨c4, z4⟩ := N0.out.at 4 _ rfl
            obtain ⟨c5, z5⟩ := N0.out.at 5 _ rfl
            obtain ⟨c6, z6⟩ := N0.out.at 6 _ rfl
            obtain ⟨c7, z7⟩ := N0.out.at 7 _ rfl
            obtain ⟨d0, y0⟩ := N1.out.at 0 _ rfl
            obtain ⟨d1, y1⟩ := N1.out.at 1 _ rfl
            obtain ⟨d2, y2⟩ := N1.out.at 2 _ rfl
            obtain ⟨d3, y3⟩ := N1.out.at 3 _ rfl
            obtain ⟨d4, y4⟩ := N1.out.at 4 _ rfl
            obtain ⟨d5, y5⟩ := N1.out.at 5 _ rfl
            obtain ⟨d6, y6⟩ := N1.out.at 6 _ rfl
            obtain ⟨d7, y7⟩ := N1.out.at 7 _ rfl
            clear N0 N1 M0 M1
            go_wp2_with fail
            refine bodyPost_ret (v := .tuple #[.agg #[.int .i64 0, .int .i64 0, .int .i64 0, .int .i64 0, .int .i64 0, .int .i64 0, .int .i64 0, .int .i64 0], .bool false]) (by simp [results, Tryz.results10, go_sem, c0, c1, c2, c3, c4, c5, c6, c7]) rfl ⟨by rw [HV.out]; rfl, ((((((((HO1.out.1.setCell (Nat.le_refl _) _).setCell (Nat.le_refl _) _).setCell (Nat.le_refl _) _).setCell (Nat.le_refl _) _).setCell (Nat.le_refl _) _).setCell (Nat.le_refl _) _).setCell (Nat.le_refl _) _).setCell (Nat.le_refl _) _)⟩
end Ip
end Go.Proofs.YteimhepmcjdbpaaGreatDoor
