import Derived.Test.YteimhepmcjdbpaaGreatDoorIp2
import Derived.Test.YteimhepmcjdbpaaGreatDoorIp3
import Derived.Deep.QuietTactic
import Derived.BigQuiet
namespace Go.Proofs.YteimhepmcjdbpaaGreatDoor
open Go.RowKit
namespace Ip

/-- A row of cells that may be written to. -/
def Li (w : World) (g : Nat) (l : List Value) : Prop := ∀ j (h : j < l.length), w.cell? ⟨g, j, none⟩ = some l[j] ∧ w.frozen? ⟨g, j, none⟩ = false

theorem Li.set {w : World} {g : Nat} {l : List Value} (h : Li w g l) (k : Nat) (v : Value) : Li (w.setCell ⟨g, k, none⟩ v) g (l.set k v) := by
  intro j hj
  have hj' : j < l.length := by simpa using hj
  rw [World.frozen?_setCell, List.getElem_set]
  refine ⟨?_, (h j hj').2⟩
  by_cases e : k = j
  · subst e
    rw [World.cell?_setCell_same _ _ _ (h k hj').1]; simp
  · rw [World.cell?_setCell_other _ _ _ _ (by intro h2; cases h2; exact e rfl), (h j hj').1]
    simp [e]
theorem Li.other {w : World} {g : Nat} {l : List Value} (h : Li w g l) (a : Addr) (v : Value) (hne : a.block ≠ g) : Li (w.setCell a v) g l := by
  intro j hj
  rw [World.frozen?_setCell, World.cell?_setCell_other _ _ _ _ (by intro e; exact hne (by rw [e]))]
  exact h j hj
theorem Li.step {w w' : World} {g : Nat} {l : List Value} (h : Li w g l) (hb : Below w.heap.size w w') (hg : g < w.heap.size) : Li w' g l := fun j hj =>
  ⟨(hb.cell (p := ⟨g, j, none⟩) hg).trans (h j hj).1, (hb.frozen (p := ⟨g, j, none⟩) hg).trans (h j hj).2⟩
theorem Li.new (w : World) (c : Array Value) (t : TypeId) : Li (w.alloc (.cells c t)) w.heap.size c.toList := by
  intro j hj
  have e : (w.alloc (.cells c t)).heap[w.heap.size]? = some (.cells c t) := by
    show (w.heap.push _)[w.heap.size]? = _
    rw [Array.getElem?_push, if_pos rfl]
  refine ⟨?_, ?_⟩
  · rw [cell_of_row _ _ j c t (0, 0) e, Array.getElem?_eq_getElem (by simpa using hj)]; simp
  · unfold World.frozen?; rw [e]; simp

def u8v (l : List Int) : List Value := l.map fun x => .int .u8 x

theorem Li.at {w : World} {g : Nat} {l : List Value} (h : Li w g l) (j : Nat) (v : Value) (hj : l[j]? = some v) : w.cell? ⟨g, j, none⟩ = some v ∧ w.frozen? ⟨g, j, none⟩ = false := by
  obtain ⟨hlt, e⟩ := List.getElem?_eq_some_iff.1 hj
  have := h j hlt
  rwa [e] at this

theorem u8v_len (l : List Int) : (u8v l).length = l.length := by simp [u8v]
theorem u8v_at (l : List Int) (j : Nat) (x : Int) (h : l[j]? = some x) : (u8v l)[j]? = some (.int .u8 x) := by
  unfold u8v; rw [List.getElem?_map, h]; rfl
theorem u8v_set (l : List Int) (k : Nat) (x : Int) : (u8v l).set k (.int .u8 x) = u8v (l.set k x) := by
  unfold u8v; rw [List.map_set]
theorem four {l : List Int} (h : l.length = 4) : ∃ a b c d, l = [a, b, c, d] := by
  match l, h with
  | [a, b, c, d], _ => exact ⟨a, b, c, d, rfl⟩
theorem set_next (ns : List Int) (k : Nat) (x : Int) (h : ns.length = k) (hk : k < 4) : (ns ++ List.replicate (4 - k) 0).set k x = (ns ++ [x]) ++ List.replicate (4 - (k + 1)) 0 := by
  subst h
  obtain ⟨m, hm⟩ : ∃ m, 4 - ns.length = m + 1 := ⟨3 - ns.length, by omega⟩
  have hm2 : 4 - (ns.length + 1) = m := by omega
  rw [hm, hm2, List.replicate_succ, List.set_append_right _ _ (Nat.le_refl _), Nat.sub_self]
  simp

set_option maxRecDepth 100000 in
set_option maxHeartbeats 4000000 in
theorem v4_any (s : ByteArray) (w : World) (hs : s.size ≤ 1000) (hg : Gl w) :
    Calls Tryz.prog 7 #[.string s] w fun e w' => e = .returned (.tuple #[.agg (u8v (v4L s.data.toList).1).toArray, .bool (v4L s.data.toList).2]) ∧ Below w.heap.size w w' := by
  have HG := hid hg
  clear hg
  go_enter Tryz.func7, Tryz.ntmps7
  go_wp2
  go_loopw [5, 6, 12] (fun r m i wr => ∃ (k : Nat) (rs : ByteArray) (mm : Bool) (ns : List Int), r = .string rs ∧ m = .bool mm ∧ i = .int .i64 k ∧ k ≤ 4 ∧ rs.size ≤ s.size ∧ Hid (Ok w.heap.size w wr ∧ w.heap.size + 2 ≤ wr.heap.size) ∧ Hid (Li wr w.heap.size (u8v [0, 0, 0, 0])) ∧ Hid (Li wr (w.heap.size + 1) (u8v (ns ++ List.replicate (4 - k) 0))) ∧ Hid (ns.length = k ∧ ∀ x ∈ ns, 0 ≤ x) ∧ Hid (v4L s.data.toList = v4R (ns ++ if mm = true then (paL 46 rs.data.toList).map nuL else []))) (fun _ _ i _ => 4 - (intOf i).toNat)
  case atStart =>
    have l0 := Li.new w #[.int .u8 0, .int .u8 0, .int .u8 0, .int .u8 0] 23
    have l1 := Li.new (w.alloc (.cells #[.int .u8 0, .int .u8 0, .int .u8 0, .int .u8 0] 23)) #[.int .u8 0, .int .u8 0, .int .u8 0, .int .u8 0] 23
    refine ⟨0, s, true, [], rfl, rfl, rfl, by omega, Nat.le_refl _, ⟨(Ok.start w).alloc.alloc, by simp⟩, l0.step ((Below.refl _ _).alloc (Nat.le_refl _) _) (by simp), ?_, ⟨rfl, by simp⟩, rfl⟩
    have e : (w.alloc (.cells #[.int .u8 0, .int .u8 0, .int .u8 0, .int .u8 0] 23)).heap.size = w.heap.size + 1 := by simp
    rw [e] at l1; exact l1
  case round =>
    obtain ⟨k, rs, mm, ns, rfl, rfl, rfl, hk, hrs, HO, L0, L1, HN, HV⟩ := hrel
    have zero : v4L s.data.toList = ([0, 0, 0, 0], false) → ∀ W, Hid (Ok w.heap.size w W ∧ w.heap.size + 2 ≤ W.heap.size) → ∀ u0 u1 u2 u3, (Ending.returned (.tuple #[.agg #[.int .u8 0, .int .u8 0, .int .u8 0, .int .u8 0], .bool false]) = Ending.returned (.tuple #[.agg (u8v (v4L s.data.toList).1).toArray, .bool (v4L s.data.toList).2])) ∧ Below w.heap.size w ((((W.setCell ⟨w.heap.size, 0, none⟩ u0).setCell ⟨w.heap.size, 1, none⟩ u1).setCell ⟨w.heap.size, 2, none⟩ u2).setCell ⟨w.heap.size, 3, none⟩ u3) := by
      intro h W HO u0 u1 u2 u3
      rw [h]
      exact ⟨rfl, (((HO.out.1.1.setCell (Nat.le_refl _) _).setCell (Nat.le_refl _) _).setCell (Nat.le_refl _) _).setCell (Nat.le_refl _) _⟩
    have HZ := hid zero
    clear zero
    by_cases hk4 : k < 4
    · cases mm
      · have HB := hid (HZ.out (by rw [HV.out]; exact v4R_len _ (by have := HN.out.1; simp; omega)))
        obtain ⟨c0, z0⟩ := L0.out.at 0 _ rfl
        obtain ⟨c1, z1⟩ := L0.out.at 1 _ rfl
        obtain ⟨c2, z2⟩ := L0.out.at 2 _ rfl
        obtain ⟨c3, z3⟩ := L0.out.at 3 _ rfl
        clear L0 L1 HZ HN
        go_wp2_with fail
        refine bodyPost_ret (v := .tuple #[.agg #[.int .u8 0, .int .u8 0, .int .u8 0, .int .u8 0], .bool false]) (by simp [results, Tryz.results7, go_sem, c0, c1, c2, c3]) rfl (HB.out _ HO _ _ _ _)
      · have HC := hid (cut_any rs ⟨#[46]⟩ wr (by omega) (by simp) (HG.out.step HO.out.1.1))
        have hP := paL_cut 46 rs.data.toList
        have hl := cuG_len [46] rs.data.toList
        have e46 : (ByteArray.mk #[46]).data.toList = [46] := rfl
        rw [e46] at HC
        generalize (cuG [46] rs.data.toList).1 = b1 at *
        generalize (cuG [46] rs.data.toList).2.1 = r1 at *
        generalize (cuG [46] rs.data.toList).2.2 = f1 at *
        have HD := hid (fun W => num_any ⟨b1.toArray⟩ W (by rw [len_size] at hl; show b1.toArray.size ≤ _; unfold maxLen; simp; omega))
        have eb : (ByteArray.mk b1.toArray).data.toList = b1 := by simp
        have er : (ByteArray.mk r1.toArray).data.toList = r1 := by simp
        have HR : Hid ((ByteArray.mk r1.toArray).size ≤ s.size) := by
          show r1.toArray.size ≤ _; rw [len_size] at hl; simp; omega
        rw [eb] at HD
        have HV2 : Hid (v4L s.data.toList = v4R (ns ++ (nuL b1 :: if f1 = true then (paL 46 (ByteArray.mk r1.toArray).data.toList).map nuL else []))) := by
          show _ = _
          rw [HV.out, if_pos rfl, hP, er]
          cases f1 <;> rfl
        clear hP hl e46 eb er HV
        generalize (ByteArray.mk r1.toArray) = rr at *
        generalize (ByteArray.mk b1.toArray) = bb at *
        by_cases hn : 0 ≤ nuL b1
        · have hv : nuV b1 = nuL b1 := if_pos hn
          have hd : decide (0 ≤ nuL b1) = true := decide_eq_true hn
          rw [hv, hd] at HD
          have HX := hid hn
          clear hv hd hn HZ
          generalize nuL b1 = x at *
          go_wp2_with fail
          refine HC.out.mono ?_
          rintro e w1 ⟨rfl, hb1⟩
          have H1 := hid hb1
          clear hb1
          go_wp2_with fail
          refine (HD.out _).mono ?_
          rintro e w2 ⟨rfl, hb2⟩
          have HO2 : Hid (Ok w.heap.size w w2 ∧ w.heap.size + 2 ≤ w2.heap.size) := ⟨(HO.out.1.step H1.out).step hb2, Nat.le_trans HO.out.2 (Nat.le_trans H1.out.size hb2.size)⟩
          have M0 := hid ((L0.out.step H1.out (by have := HO.out.2; omega)).step hb2 (by have := HO.out.2; have := H1.out.size; omega))
          have M1 := hid ((L1.out.step H1.out (by have := HO.out.2; omega)).step hb2 (by have := HO.out.2; have := H1.out.size; omega))
          clear hb2 L0 L1 HC HD H1 HO
          have hck : ∃ v, (u8v (ns ++ List.replicate (4 - k) 0))[k]? = some v := ⟨_, List.getElem?_eq_getElem (by rw [u8v_len]; have := HN.out.1; simp; omega)⟩
          obtain ⟨v0, hck⟩ := hck
          obtain ⟨ck, zk⟩ := M1.out.at k v0 hck
          have N0 := hid (M0.out.other ⟨w.heap.size + 1, k, none⟩ (.int .u8 x) (by simp))
          have N1 := hid (M1.out.set k (.int .u8 x))
          have HO3 : Hid (Ok w.heap.size w (w2.setCell ⟨w.heap.size + 1, k, none⟩ (.int .u8 x)) ∧ w.heap.size + 2 ≤ (w2.setCell ⟨w.heap.size + 1, k, none⟩ (.int .u8 x)).heap.size) := ⟨⟨HO2.out.1.1.setCell (by simp) _, by have := HO2.out.2; simp [World.setCell]; omega⟩, by have := HO2.out.2; simp [World.setCell]; omega⟩
          clear M0 M1 hck
          go_wp2_with fail
          go_roundw
          case rel =>
            refine ⟨k + 1, rr, f1, ns ++ [x], rfl, rfl, by go_num, by omega, HR.out, HO3, N0, ?_, ⟨by simp [HN.out.1], ?_⟩, ?_⟩
            · have := N1.out
              rw [u8v_set, set_next ns k x HN.out.1 hk4] at this
              exact this
            · intro y hy
              rw [List.mem_append] at hy
              rcases hy with hy | hy
              · exact HN.out.2 y hy
              · rw [List.mem_singleton] at hy; rw [hy]; exact HX.out
            · show _ = _
              rw [HV2.out]; simp
          case measure => simp [intOf]; omega
        · have hv : nuV b1 = 0 := if_neg hn
          have hd : decide (0 ≤ nuL b1) = false := decide_eq_false hn
          rw [hv, hd] at HD
          have HB := hid (HZ.out (by rw [HV2.out]; exact v4R_neg _ (nuL b1) (by omega) (by simp)))
          clear hv hd HZ HV2
          go_wp2_with fail
          refine HC.out.mono ?_
          rintro e w1 ⟨rfl, hb1⟩
          have H1 := hid hb1
          clear hb1
          go_wp2_with fail
          refine (HD.out _).mono ?_
          rintro e w2 ⟨rfl, hb2⟩
          have HO2 : Hid (Ok w.heap.size w w2 ∧ w.heap.size + 2 ≤ w2.heap.size) := ⟨(HO.out.1.step H1.out).step hb2, Nat.le_trans HO.out.2 (Nat.le_trans H1.out.size hb2.size)⟩
          have M0 := hid ((L0.out.step H1.out (by have := HO.out.2; omega)).step hb2 (by have := HO.out.2; have := H1.out.size; omega))
          clear hb2 L0 L1 HC HD H1 HO
          obtain ⟨c0, z0⟩ := M0.out.at 0 _ rfl
          obtain ⟨c1, z1⟩ := M0.out.at 1 _ rfl
          obtain ⟨c2, z2⟩ := M0.out.at 2 _ rfl
          obtain ⟨c3, z3⟩ := M0.out.at 3 _ rfl
          clear M0
          go_wp2_with fail
          refine bodyPost_ret (v := .tuple #[.agg #[.int .u8 0, .int .u8 0, .int .u8 0, .int .u8 0], .bool false]) (by simp [results, Tryz.results7, go_sem, c0, c1, c2, c3]) rfl (HB.out _ HO2 _ _ _ _)
    · have hk5 : k = 4 := by omega
      subst hk5
      obtain ⟨c0, z0⟩ := L0.out.at 0 _ rfl
      obtain ⟨c1, z1⟩ := L0.out.at 1 _ rfl
      obtain ⟨c2, z2⟩ := L0.out.at 2 _ rfl
      obtain ⟨c3, z3⟩ := L0.out.at 3 _ rfl
      cases mm
      · obtain ⟨a, b, c, d, rfl⟩ := four HN.out.1
        have hv : v4L s.data.toList = ([a, b, c, d], true) := by
          rw [HV.out]
          have h := HN.out.2
          simp only [List.mem_cons, List.not_mem_nil, or_false, forall_eq_or_imp, forall_eq] at h
          exact v4R_yes a b c d h.1 h.2.1 h.2.2.1 h.2.2.2
        have HF := hid hv
        obtain ⟨d0, y0⟩ := L1.out.at 0 _ rfl
        obtain ⟨d1, y1⟩ := L1.out.at 1 _ rfl
        obtain ⟨d2, y2⟩ := L1.out.at 2 _ rfl
        obtain ⟨d3, y3⟩ := L1.out.at 3 _ rfl
        clear L0 L1 HZ HN HV hv
        go_wp2_with fail
        refine bodyPost_ret (v := .tuple #[.agg #[.int .u8 a, .int .u8 b, .int .u8 c, .int .u8 d], .bool true]) (by simp [results, Tryz.results7, go_sem, c0, c1, c2, c3]) rfl ⟨by rw [HF.out]; rfl, (((HO.out.1.1.setCell (Nat.le_refl _) _).setCell (Nat.le_refl _) _).setCell (Nat.le_refl _) _).setCell (Nat.le_refl _) _⟩
      · have HB := hid (HZ.out (by
          rw [HV.out, if_pos rfl]
          refine v4R_len _ ?_
          have h1 := HN.out.1
          have h2 := List.length_pos_iff.2 (paL_ne 46 rs.data.toList)
          simp; omega))
        clear L0 L1 HZ HN HV
        go_wp2_with fail
        refine bodyPost_ret (v := .tuple #[.agg #[.int .u8 0, .int .u8 0, .int .u8 0, .int .u8 0], .bool false]) (by simp [results, Tryz.results7, go_sem, c0, c1, c2, c3]) rfl (HB.out _ HO _ _ _ _)
end Ip
end Go.Proofs.YteimhepmcjdbpaaGreatDoor
