import Derived.Test.YteimhepmcjdbpaaGreatDoorIp16
namespace Go.Proofs.YteimhepmcjdbpaaGreatDoor
open Go.RowKit
namespace Ip

theorem dcD_is (n : Nat) (x : UInt8) (h : 48 + n = x.toNat) : dcD n = x := by
  unfold dcD
  rw [h]
  exact UInt8.ofNat_toNat
theorem nu_dc_all : ((List.range 256).all fun k => decide (nuL (dcT k) = (k : Int))) = true := by decide +kernel
theorem nu_dc (k : Nat) (h : k < 256) : nuL (dcT k) = k := by
  have := List.all_eq_true.1 nu_dc_all k (by simpa using h)
  simpa using this
theorem dc_nu (b : List UInt8) (k : Nat) (h : nuL b = (k : Int)) : dcT k = b := by
  unfold nuL at h
  split at h
  · rename_i hc
    obtain ⟨h1, h2, h3, h4, h5⟩ := hc
    match b, h1, h2, h3, h4, h5, h with
    | [x], _, _, h3, _, _, h =>
      simp only [List.all_cons, List.all_nil, Bool.and_true, dgt, decide_eq_true_eq] at h3
      simp only [decI, List.foldl] at h
      unfold dcT
      rw [if_pos (by omega), dcD_is k x (by omega)]
    | [x, y], _, _, h3, h4, _, h =>
      simp only [List.all_cons, List.all_nil, Bool.and_true, dgt, decide_eq_true_eq, Bool.and_eq_true] at h3
      simp only [decI, List.foldl] at h
      have hx : x.toNat ≠ 48 := by
        intro e
        have e2 : x = 48 := UInt8.toNat_inj.1 e
        have := h4 (by rw [e2]; rfl)
        simp at this
      unfold dcT
      rw [if_neg (by omega), if_pos (by omega), dcD_is _ x (by omega), dcD_is _ y (by omega)]
    | [x, y, z], _, _, h3, h4, _, h =>
      simp only [List.all_cons, List.all_nil, Bool.and_true, dgt, decide_eq_true_eq, Bool.and_eq_true] at h3
      simp only [decI, List.foldl] at h
      have hx : x.toNat ≠ 48 := by
        intro e
        have e2 : x = 48 := UInt8.toNat_inj.1 e
        have := h4 (by rw [e2]; rfl)
        simp at this
      unfold dcT
      rw [if_neg (by omega), if_neg (by omega), dcD_is _ x (by omega), dcD_is _ y (by omega), dcD_is _ z (by omega)]
    | _ :: _ :: _ :: _ :: _, _, h2, _, _, _, _ => simp at h2
  · omega
/-- Which of the numbers below k the digits say. -/
def nuK (b : List UInt8) (k : Nat) : Int := if 0 ≤ nuL b ∧ nuL b < k then nuL b else -1
theorem nuK_0 (b : List UInt8) : nuK b 0 = -1 := by unfold nuK; rw [if_neg (by omega)]
theorem nuK_256 (b : List UInt8) : nuK b 256 = nuL b := by
  have := nuL_bd b
  unfold nuK
  split
  · rfl
  · omega
theorem nuK_yes (b : List UInt8) (k : Nat) (h : dcT k = b) (hk : k < 256) : nuK b (k + 1) = k := by
  have := nu_dc k hk
  rw [h] at this
  unfold nuK
  rw [this, if_pos (by omega)]
theorem nuK_no (b : List UInt8) (k : Nat) (h : ¬ dcT k = b) : nuK b (k + 1) = nuK b k := by
  have hne : nuL b ≠ k := fun e => h (dc_nu b k e)
  unfold nuK
  by_cases h1 : 0 ≤ nuL b ∧ nuL b < k
  · rw [if_pos h1, if_pos (by omega)]
  · rw [if_neg h1, if_neg (by omega)]

def i64v (l : List Int) : List Value := l.map fun x => .int .i64 x
theorem i64v_len (l : List Int) : (i64v l).length = l.length := by simp [i64v]
theorem i64v_set (l : List Int) (k : Nat) (x : Int) : (i64v l).set k (.int .i64 x) = i64v (l.set k x) := by
  unfold i64v; rw [List.map_set]

theorem bel_drew {B : Nat} {a w : World} (h : Below B a w) (q : Nat) : Below B a (w.drewN q) := ⟨h.os, h.tape, h.output, h.size, h.block⟩
theorem drew_cell (w : World) (q : Nat) (p : Addr) : (w.drewN q).cell? p = w.cell? p := rfl
theorem txt_eq (a b : List UInt8) : ((⟨a.toArray⟩ : ByteArray).toList == (⟨b.toArray⟩ : ByteArray).toList) = decide (a = b) := by
  rw [ByteArray.toList_eq, ByteArray.toList_eq]
  by_cases h : a = b
  · rw [h]; simp
  · rw [decide_eq_false h, beq_eq_false_iff_ne]; exact h

set_option maxRecDepth 100000 in
set_option maxHeartbeats 4000000 in
theorem rv4_any (s : ByteArray) (w : World) (hs : s.size ≤ 1000) :
    Calls Tryz.prog 9 #[.string s] w fun e w' => e = .returned (.tuple #[.agg (i64v (v4L s.data.toList).1).toArray, .bool (v4L s.data.toList).2]) ∧ Below w.heap.size w w' := by
  have HP := hid (fun W => rparts_any s 46 46 rfl W hs)
  have L0 := hid (Li.new w #[.int .i64 0, .int .i64 0, .int .i64 0, .int .i64 0] 30)
  have HO0 := hid ((Ok.start w).alloc (o := .cells #[.int .i64 0, .int .i64 0, .int .i64 0, .int .i64 0] 30))
  have hV : Hid (v4L s.data.toList = v4R ((paL 46 s.data.toList).map nuL)) := rfl
  have HLn : Hid ((paL 46 s.data.toList).length ≤ 1001) := by
    show _ ≤ _
    have : ∀ l : List UInt8, (paL 46 l).length ≤ l.length + 1 := by
      intro l
      induction l with
      | nil => exact Nat.le_refl _
      | cons a l ih =>
        have := paL_ne 46 l
        unfold paL
        split
        · simpa using ih
        · cases h : paL 46 l with
          | nil => exact absurd h this
          | cons x t => rw [h] at ih; simpa using Nat.le_succ_of_le ih
    have := this s.data.toList
    rw [len_size] at this; omega
  have HZ : Hid (¬ (paL 46 s.data.toList).length = 4 → v4L s.data.toList = ([0, 0, 0, 0], false)) := by
    intro h; rw [hV.out]; exact v4R_len _ (by rw [List.length_map]; exact h)
  go_enter Tryz.func9, Tryz.ntmps9
  go_wp2_with fail
  refine (HP.out _).mono ?_
  rintro e w1 ⟨⟨v, rfl, hT, _⟩, hb1⟩
  have H1 := hid hb1
  have HT := hid hT
  clear hT hb1 HP
  obtain ⟨g, cap, rfl, hgl, hgc⟩ := HT.out
  have HG := hid hgl
  have HC := hid hgc
  clear HT hgl hgc
  generalize paL 46 s.data.toList = L at *
  have HO1 := hid ((HO0.out.step H1.out).alloc (o := .cells #[.int .i64 0, .int .i64 0, .int .i64 0, .int .i64 0] 30))
  have hw1 : Hid (w.heap.size < w1.heap.size) := by
    have h1 := H1.out.size
    have h2 : (w.alloc (.cells #[.int .i64 0, .int .i64 0, .int .i64 0, .int .i64 0] 30)).heap.size = w.heap.size + 1 := by simp
    show _ < _; omega
  have M0 := hid ((L0.out.step H1.out (by simp)).step ((Below.refl _ _).alloc (Nat.le_refl _) (.cells #[.int .i64 0, .int .i64 0, .int .i64 0, .int .i64 0] 30)) hw1.out)
  have M1 := hid (Li.new w1 #[.int .i64 0, .int .i64 0, .int .i64 0, .int .i64 0] 30)
  have MC : Hid (∀ j (h : j < L.length), (w1.alloc (.cells #[.int .i64 0, .int .i64 0, .int .i64 0, .int .i64 0] 30)).cell? ⟨g, j, none⟩ = some (.string ⟨L[j].toArray⟩)) := fun j hj => (((Below.refl w1.heap.size _).alloc (Nat.le_refl _) _).cell (p := ⟨g, j, none⟩) HG.out).trans (HC.out j hj)
  clear H1 L0 HO0
  by_cases h4 : L.length = 4
  · have H4 := hid h4
    rw [h4]
    clear h4
    clear HZ HC
    go_wp2_with fail
    go_loopw [6, 7, 8] (fun i nn kk wr => ∃ (k : Nat) (ns : List Int), i = .int .i64 k ∧ k ≤ 4 ∧ Hid (Ok w.heap.size w wr ∧ w1.heap.size + 1 ≤ wr.heap.size) ∧ Hid (Li wr w.heap.size (i64v [0, 0, 0, 0])) ∧ Hid (Li wr w1.heap.size (i64v (ns ++ List.replicate (4 - k) 0))) ∧ Hid (∀ j (h : j < L.length), wr.cell? ⟨g, j, none⟩ = some (.string ⟨L[j].toArray⟩)) ∧ Hid (ns = (L.take k).map nuL ∧ ∀ x ∈ ns, 0 ≤ x)) (fun i _ _ _ => 4 - (intOf i).toNat)
    case atStart => exact ⟨0, [], rfl, by omega, ⟨HO1.out, by simp⟩, M0.out, M1.out, MC.out, ⟨rfl, by simp⟩⟩
    case round =>
      obtain ⟨k, ns, rfl, hk, HO, L0, L1, HC, HN⟩ := hrel
      have HNl : Hid (ns.length = k) := by
        show _ = _; rw [HN.out.1, List.length_map, List.length_take, H4.out]; omega
      clear M0 M1 MC HO1
      by_cases hk4 : k < 4
      · have hkL : k < L.length := by rw [H4.out]; exact hk4
        have ck := HC.out k hkL
        have HX := hid (fun m : Nat => txt_eq (dcT m) L[k])
        have HK := hid (fun (m : Nat) (h : dcT m = L[k]) (h2 : m < 256) => nuK_yes L[k] m h h2)
        have HKn := hid (fun (m : Nat) (h : ¬ dcT m = L[k]) => nuK_no L[k] m h)
        have HK0 := hid (nuK_0 L[k])
        have HK1 := hid (nuK_256 L[k])
        have hkb := nuL_bd L[k]
        have HLk : Hid (L.take (k + 1) = L.take k ++ [L[k]]) := by
          show _ = _; rw [List.take_succ_eq_append_getElem hkL]
        have HLm : Hid (L[k] ∈ L) := List.getElem_mem hkL
        generalize L[k] = b at *
        generalize hbb : (⟨b.toArray⟩ : ByteArray) = bb at *
        go_wp2_with fail
        go_loopw [7, 8] (fun nn kk wr2 => ∃ (m q : Nat), nn = .int .i64 (nuK b m) ∧ kk = .int .i64 m ∧ m ≤ 256 ∧ Hid (wr2 = wr.drewN q)) (fun _ kk _ => 256 - (intOf kk).toNat)
        case atStart => exact ⟨0, 0, by rw [HK0.out], rfl, by omega, by show _ = _; rfl⟩
        case round =>
          obtain ⟨m, q, rfl, rfl, hm, HQ⟩ := hrel
          have ck2 : wr.cell? ⟨g, k, none⟩ = some (.string bb) := by rw [HQ.out]; exact ck
          by_cases hm2 : m < 256
          · have HD := hid (fun W => rdig_any m W (by omega))
            by_cases hd : dcT m = b
            · have hq := HX.out m
              rw [decide_eq_true hd] at hq
              have HK2 := hid (HK.out m hd hm2)
              clear hd
              generalize (⟨(dcT m).toArray⟩ : ByteArray) = r at *
              go_wp2_with fail
              go_quiet ((go_at_call 17; exact Calls.quiet_of (HD.out _)))
              go_wp2_with fail
              go_roundw
              case rel => exact ⟨m + 1, _, by rw [HK2.out], by go_num, by omega, by show _ = _; rw [HQ.out]; exact World.drewN_drewN _ _ _⟩
              case measure => simp [intOf]; omega
            · have hq := HX.out m
              rw [decide_eq_false hd] at hq
              have HK2 := hid (HKn.out m hd)
              clear hd
              generalize (⟨(dcT m).toArray⟩ : ByteArray) = r at *
              go_wp2_with fail
              go_quiet ((go_at_call 17; exact Calls.quiet_of (HD.out _)))
              go_wp2_with fail
              go_roundw
              case rel => exact ⟨m + 1, _, by rw [HK2.out], by go_num, by omega, by show _ = _; rw [HQ.out]; exact World.drewN_drewN _ _ _⟩
              case measure => simp [intOf]; omega
          · have hm3 : m = 256 := by omega
            subst hm3
            rw [HK1.out]
            have P0 : Hid (Li wr w.heap.size (i64v [0, 0, 0, 0])) := by show Li _ _ _; rw [HQ.out]; exact L0.out
            have P1 : Hid (Li wr w1.heap.size (i64v (ns ++ List.replicate (4 - k) 0))) := by show Li _ _ _; rw [HQ.out]; exact L1.out
            have PC : Hid (∀ j (h : j < L.length), wr.cell? ⟨g, j, none⟩ = some (.string ⟨L[j].toArray⟩)) := by show ∀ j (h : j < L.length), _; rw [HQ.out]; exact HC.out
            have PO : Hid (Ok w.heap.size w wr ∧ w1.heap.size + 1 ≤ wr.heap.size) := by
              show _ ∧ _; rw [HQ.out]; exact ⟨⟨bel_drew HO.out.1.1 _, HO.out.1.2⟩, HO.out.2⟩
            clear HX HK HKn HK0 HK1 ck hbb L0 L1 HC HO HQ
            by_cases hn : 0 ≤ nuL b
            · have hn2 : ¬ nuL b < 0 := by omega
              have HX := hid hn
              have HN2 : Hid (ns ++ [nuL b] = (L.take (k + 1)).map nuL) := by
                show _ = _; rw [HLk.out, List.map_append, ← HN.out.1]; rfl
              clear HLk HLm
              generalize nuL b = x at *
              have hck : ∃ v, (i64v (ns ++ List.replicate (4 - k) 0))[k]? = some v := ⟨_, List.getElem?_eq_getElem (by rw [i64v_len]; have := HNl.out; simp; omega)⟩
              obtain ⟨v0, hck⟩ := hck
              obtain ⟨ck, zk⟩ := P1.out.at k v0 hck
              have N0 := hid (P0.out.other ⟨w1.heap.size, k, none⟩ (.int .i64 x) (by have := hw1.out; simp; omega))
              have N1 := hid (P1.out.set k (.int .i64 x))
              have NC : Hid (∀ j (h : j < L.length), (wr.setCell ⟨w1.heap.size, k, none⟩ (.int .i64 x)).cell? ⟨g, j, none⟩ = some (.string ⟨L[j].toArray⟩)) := fun j hj => by
                rw [World.cell?_setCell_other _ _ _ _ (by intro e; have := HG.out; injection e with e1 _ _; omega)]
                exact PC.out j hj
              have NO : Hid (Ok w.heap.size w (wr.setCell ⟨w1.heap.size, k, none⟩ (.int .i64 x)) ∧ w1.heap.size + 1 ≤ (wr.setCell ⟨w1.heap.size, k, none⟩ (.int .i64 x)).heap.size) := by
                have h1 := PO.out.1.2
                have h2 := PO.out.2
                exact ⟨⟨PO.out.1.1.setCell (by have := hw1.out; simp; omega) _, by simpa [World.setCell] using h1⟩, by simpa [World.setCell] using h2⟩
              clear P0 P1 PC PO hck
              go_wp2_with fail
              go_roundw
              case rel =>
                refine ⟨k + 1, ns ++ [x], by go_num, by omega, NO, N0, ?_, NC, ⟨HN2.out, ?_⟩⟩
                · have := N1.out
                  rw [i64v_set, set_next ns k x HNl.out hk4] at this
                  exact this
                · intro y hy
                  rw [List.mem_append] at hy
                  rcases hy with hy | hy
                  · exact HN.out.2 y hy
                  · rw [List.mem_singleton] at hy; rw [hy]; exact HX.out
              case measure => simp [intOf]; omega
            · have hn2 : nuL b < 0 := by omega
              have HF : Hid (v4L s.data.toList = ([0, 0, 0, 0], false)) := by
                show _ = _; rw [hV.out]; exact v4R_neg _ (nuL b) hn2 (List.mem_map.2 ⟨b, HLm.out, rfl⟩)
              obtain ⟨c0, z0⟩ := P0.out.at 0 _ rfl
              obtain ⟨c1, z1⟩ := P0.out.at 1 _ rfl
              obtain ⟨c2, z2⟩ := P0.out.at 2 _ rfl
              obtain ⟨c3, z3⟩ := P0.out.at 3 _ rfl
              clear P0 P1 PC hn
              generalize nuL b = x at *
              go_wp2_with fail
              refine bodyPost_ret (v := .tuple #[.agg #[.int .i64 0, .int .i64 0, .int .i64 0, .int .i64 0], .bool false]) (by simp [results, Tryz.results9, go_sem, c0, c1, c2, c3]) rfl ⟨by rw [HF.out]; rfl, (((PO.out.1.1.setCell (Nat.le_refl _) _).setCell (Nat.le_refl _) _).setCell (Nat.le_refl _) _).setCell (Nat.le_refl _) _⟩
      · have hk5 : k = 4 := by omega
        subst hk5
        obtain ⟨c0, z0⟩ := L0.out.at 0 _ rfl
        obtain ⟨c1, z1⟩ := L0.out.at 1 _ rfl
        obtain ⟨c2, z2⟩ := L0.out.at 2 _ rfl
        obtain ⟨c3, z3⟩ := L0.out.at 3 _ rfl
        obtain ⟨a, b, c, d, rfl⟩ := four HNl.out
        have HF : Hid (v4L s.data.toList = ([a, b, c, d], true)) := by
          show _ = _
          have h0 := HN.out.1
          rw [List.take_of_length_le (by rw [H4.out]; exact Nat.le_refl _)] at h0
          rw [hV.out, ← h0]
          have h := HN.out.2
          simp only [List.mem_cons, List.not_mem_nil, or_false, forall_eq_or_imp, forall_eq] at h
          exact v4R_yes a b c d h.1 h.2.1 h.2.2.1 h.2.2.2
        obtain ⟨d0, y0⟩ := L1.out.at 0 _ rfl
        obtain ⟨d1, y1⟩ := L1.out.at 1 _ rfl
        obtain ⟨d2, y2⟩ := L1.out.at 2 _ rfl
        obtain ⟨d3, y3⟩ := L1.out.at 3 _ rfl
        clear L0 L1 HC HN
        go_wp2_with fail
        refine bodyPost_ret (v := .tuple #[.agg #[.int .i64 a, .int .i64 b, .int .i64 c, .int .i64 d], .bool true]) (by simp [results, Tryz.results9, go_sem, c0, c1, c2, c3]) rfl ⟨by rw [HF.out]; rfl, (((HO.out.1.1.setCell (Nat.le_refl _) _).setCell (Nat.le_refl _) _).setCell (Nat.le_refl _) _).setCell (Nat.le_refl _) _⟩
  · have HF := hid (HZ.out h4)
    have hq : (((L.length : Nat) : Int) == 4) = false := by rw [beq_eq_false_iff_ne]; omega
    obtain ⟨c0, z0⟩ := M0.out.at 0 _ rfl
    obtain ⟨c1, z1⟩ := M0.out.at 1 _ rfl
    obtain ⟨c2, z2⟩ := M0.out.at 2 _ rfl
    obtain ⟨c3, z3⟩ := M0.out.at 3 _ rfl
    obtain ⟨d0, y0⟩ := M1.out.at 0 _ rfl
    obtain ⟨d1, y1⟩ := M1.out.at 1 _ rfl
    obtain ⟨d2, y2⟩ := M1.out.at 2 _ rfl
    obtain ⟨d3, y3⟩ := M1.out.at 3 _ rfl
    have hln := HLn.out
    clear M0 M1 MC HZ HC
    generalize L.length = n at *
    go_wp2_with fail
    refine bodyPost_ret (v := .tuple #[.agg #[.int .i64 0, .int .i64 0, .int .i64 0, .int .i64 0], .bool false]) (by simp [results, Tryz.results9, go_sem, c0, c1, c2, c3]) rfl ⟨by rw [HF.out]; rfl, (((HO1.out.1.setCell (Nat.le_refl _) _).setCell (Nat.le_refl _) _).setCell (Nat.le_refl _) _).setCell (Nat.le_refl _) _⟩
end Ip
end Go.Proofs.YteimhepmcjdbpaaGreatDoor
