import Derived.Test.YteimhepmcjdbpaaGreatDoorIp23
import Derived.Deep.RegionHeld3
namespace Go.Proofs.YteimhepmcjdbpaaGreatDoor
open Go.RowKit
namespace Ip

theorem row4u {w : World} {g : Nat} {a b c d : Int} (h : Li w g (u8v [a, b, c, d])) (k : Nat) (hk : k < [a, b, c, d].length) : w.cell? ⟨g, k, none⟩ = some (.int .u8 [a, b, c, d][k]) :=
  (h.at k _ (u8v_at _ k _ (List.getElem?_eq_getElem hk))).1
theorem rowI {w : World} {g : Nat} {l : List Int} (h : Li w g (i64v l)) (k : Nat) (hk : k < l.length) : w.cell? ⟨g, k, none⟩ = some (.int .i64 l[k]) :=
  (h.at k _ (by unfold i64v; rw [List.getElem?_map, List.getElem?_eq_getElem hk]; rfl)).1
theorem rowU {w : World} {g : Nat} {l : List Int} (h : Li w g (u16v l)) (k : Nat) (hk : k < l.length) : w.cell? ⟨g, k, none⟩ = some (.int .u16 l[k]) :=
  (h.at k _ (by unfold u16v; rw [List.getElem?_map, List.getElem?_eq_getElem hk]; rfl)).1

set_option maxRecDepth 100000 in
set_option maxHeartbeats 4000000 in
theorem reads_any (a0 : ByteArray) (w : World) (hg : Gl w) (hd : Db w) :
    Calls Tryz.prog 3 #[.string a0] w fun e w' => e = .returned (.bool true) ∧ Below w.heap.size w w' := by
  have hok := Ok.start w
  have HA := hid (fun W (h : Below w.heap.size w W) => awake_any W (hg.step h) (hd.step h))
  by_cases h : 80 < a0.size
  · go_enter Tryz.func3, Tryz.ntmps3
    go_wp2_with fail
    refine (HA.out _ hok.1).mono ?_
    rintro e w1 ⟨rfl, hb⟩
    replace hok := hok.step hb
    clear hb
    go_wp2_with fail
    go_ret
    exact ⟨rfl, hok.1⟩
  have HG := hid (fun W (h : Below w.heap.size w W) => hg.step h)
  have hs : a0.size ≤ 1000 := by omega
  obtain ⟨n4, k4, e4⟩ : ∃ n k, v4L a0.data.toList = (n, k) := ⟨_, _, rfl⟩
  obtain ⟨n6, k6, e6⟩ : ∃ n k, v6L a0.data.toList = (n, k) := ⟨_, _, rfl⟩
  have H4 : Hid (∀ W, Below w.heap.size w W → Calls Tryz.prog 7 #[.string a0] W fun e w' => e = .returned (.tuple #[.agg (u8v n4).toArray, .bool k4]) ∧ Below W.heap.size W w') := fun W h => by
    have := v4_any a0 W hs (HG.out W h); rw [e4] at this; exact this
  have H6 : Hid (∀ W, Below w.heap.size w W → Calls Tryz.prog 8 #[.string a0] W fun e w' => e = .returned (.tuple #[.agg (u16v n6).toArray, .bool k6]) ∧ Below W.heap.size W w') := fun W h => by
    have := v6_any a0 W hs (HG.out W h); rw [e6] at this; exact this
  have R4 : Hid (∀ W, Calls Tryz.prog 9 #[.string a0] W fun e w' => e = .returned (.tuple #[.agg (i64v n4).toArray, .bool k4]) ∧ Below W.heap.size W w') := fun W => by
    have := rv4_any a0 W hs; rw [e4] at this; exact this
  have R6 : Hid (∀ W, Calls Tryz.prog 10 #[.string a0] W fun e w' => e = .returned (.tuple #[.agg (i64v n6).toArray, .bool k6]) ∧ Below W.heap.size W w') := fun W => by
    have := rv6_any a0 W hs; rw [rv6_is, e6] at this; exact this
  have HF := hid (fun W (h : Below w.heap.size w W) => fut_any a0 W hs (HG.out W h))
  have RF := hid (fun W => rfut_any a0 W hs)
  have hb4 : ∃ a b c d, n4 = [a, b, c, d] ∧ ∀ x ∈ n4, 0 ≤ x ∧ x ≤ 255 := by
    obtain ⟨a, b, c, d, k, e, h⟩ := v4L_bd a0.data.toList
    rw [e4] at e
    injection e with e _
    refine ⟨a, b, c, d, e, fun x hx => ?_⟩
    rw [e] at hx
    simp only [List.mem_cons, List.not_mem_nil, or_false] at hx
    omega
  have hb6 : (∃ a b c d e f g h, n6 = [a, b, c, d, e, f, g, h]) ∧ ∀ x ∈ n6, 0 ≤ x ∧ x ≤ 65535 := by
    have h := v6L_bd a0.data.toList
    rw [e6] at h
    exact ⟨eight h.1, h.2⟩
  obtain ⟨a, b, c, d, hn4, hb4⟩ := hb4
  obtain ⟨⟨x0, x1, x2, x3, x4, x5, x6, x7, hn6⟩, hb6⟩ := hb6
  have u4 : (u8v n4).toArray = #[.int .u8 a, .int .u8 b, .int .u8 c, .int .u8 d] := by rw [hn4]; rfl
  have i4 : (i64v n4).toArray = #[.int .i64 a, .int .i64 b, .int .i64 c, .int .i64 d] := by rw [hn4]; rfl
  have u6 : (u16v n6).toArray = #[.int .u16 x0, .int .u16 x1, .int .u16 x2, .int .u16 x3, .int .u16 x4, .int .u16 x5, .int .u16 x6, .int .u16 x7] := by rw [hn6]; rfl
  have i6 : (i64v n6).toArray = #[.int .i64 x0, .int .i64 x1, .int .i64 x2, .int .i64 x3, .int .i64 x4, .int .i64 x5, .int .i64 x6, .int .i64 x7] := by rw [hn6]; rfl
  have L4 := hid (fun (W : World) => show Li (W.alloc (.cells #[.int .u8 a, .int .u8 b, .int .u8 c, .int .u8 d] 23)) W.heap.size (u8v n4) by rw [← u4]; exact (by have := Li.new W (u8v n4).toArray 23; rwa [List.toList_toArray] at this))
  have L6 := hid (fun (W : World) => show Li (W.alloc (.cells #[.int .u16 x0, .int .u16 x1, .int .u16 x2, .int .u16 x3, .int .u16 x4, .int .u16 x5, .int .u16 x6, .int .u16 x7] 27)) W.heap.size (u16v n6) by rw [← u6]; exact (by have := Li.new W (u16v n6).toArray 27; rwa [List.toList_toArray] at this))
  have M4 := hid (fun (W : World) => show Li (W.alloc (.cells #[.int .i64 a, .int .i64 b, .int .i64 c, .int .i64 d] 30)) W.heap.size (i64v n4) by rw [← i4]; exact (by have := Li.new W (i64v n4).toArray 30; rwa [List.toList_toArray] at this))
  have M6 := hid (fun (W : World) => show Li (W.alloc (.cells #[.int .i64 x0, .int .i64 x1, .int .i64 x2, .int .i64 x3, .int .i64 x4, .int .i64 x5, .int .i64 x6, .int .i64 x7] 33)) W.heap.size (i64v n6) by rw [← i6]; exact (by have := Li.new W (i64v n6).toArray 33; rwa [List.toList_toArray] at this))
  rw [u4] at H4
  rw [i4] at R4
  rw [u6] at H6
  rw [i6] at R6
  have hz4 : n4.length = 4 := by rw [hn4]; rfl
  have hz6 : n6.length = 8 := by rw [hn6]; rfl
  have HO := hid hok
  have B4 := hid hb4
  have B6 := hid hb6
  clear u4 i4 u6 i6 hn4 hn6 hb4 hb6 e4 e6 hok hg hd
  generalize fuB a0.data.toList = kf at *
  go_enter Tryz.func3, Tryz.ntmps3
  go_wp2_with fail
  refine (H4.out _ HO.out.1).mono ?_
  rintro e w1 ⟨rfl, hb⟩
  have O1 := hid ((HO.out.step hb).alloc (o := .cells #[.int .u8 a, .int .u8 b, .int .u8 c, .int .u8 d] 23))
  have N4 := hid (L4.out w1)
  have G4 : Hid (w1.heap.size < (w1.alloc (.cells #[.int .u8 a, .int .u8 b, .int .u8 c, .int .u8 d] 23)).heap.size) := by show _ < _; simp
  clear hb
  go_upto_region 4 with fail
  generalize w1.alloc (.cells #[.int .u8 a, .int .u8 b, .int .u8 c, .int .u8 d] 23) = v1 at *
  generalize w1.heap.size = g1 at *
  go_wp2_with fail
  refine (H6.out _ O1.out.1).mono ?_
  rintro e w2 ⟨rfl, hb⟩
  have O2 := hid ((O1.out.step hb).alloc (o := .cells #[.int .u16 x0, .int .u16 x1, .int .u16 x2, .int .u16 x3, .int .u16 x4, .int .u16 x5, .int .u16 x6, .int .u16 x7] 27))
  have N6 := hid (L6.out w2)
  have G6 : Hid (w2.heap.size < (w2.alloc (.cells #[.int .u16 x0, .int .u16 x1, .int .u16 x2, .int .u16 x3, .int .u16 x4, .int .u16 x5, .int .u16 x6, .int .u16 x7] 27)).heap.size) := by show _ < _; simp
  have D2 : Hid (Below v1.heap.size v1 (w2.alloc (.cells #[.int .u16 x0, .int .u16 x1, .int .u16 x2, .int .u16 x3, .int .u16 x4, .int .u16 x5, .int .u16 x6, .int .u16 x7] 27))) := hb.alloc hb.size _
  clear hb
  go_upto_region 5 with fail
  generalize w2.alloc (.cells #[.int .u16 x0, .int .u16 x1, .int .u16 x2, .int .u16 x3, .int .u16 x4, .int .u16 x5, .int .u16 x6, .int .u16 x7] 27) = v2 at *
  generalize w2.heap.size = g2 at *
  go_wp2_with fail
  refine (R4.out _).mono ?_
  rintro e w3 ⟨rfl, hb⟩
  have O3 := hid ((O2.out.step hb).alloc (o := .cells #[.int .i64 a, .int .i64 b, .int .i64 c, .int .i64 d] 30))
  have P4 := hid (M4.out w3)
  have G4' : Hid (w3.heap.size < (w3.alloc (.cells #[.int .i64 a, .int .i64 b, .int .i64 c, .int .i64 d] 30)).heap.size) := by show _ < _; simp
  have D3 : Hid (Below v2.heap.size v2 (w3.alloc (.cells #[.int .i64 a, .int .i64 b, .int .i64 c, .int .i64 d] 30))) := hb.alloc hb.size _
  clear hb
  go_upto_region 6 with fail
  generalize w3.alloc (.cells #[.int .i64 a, .int .i64 b, .int .i64 c, .int .i64 d] 30) = v3 at *
  generalize w3.heap.size = g3 at *
  go_wp2_with fail
  refine (R6.out _).mono ?_
  rintro e w4 ⟨rfl, hb⟩
  have O4 := hid ((O3.out.step hb).alloc (o := .cells #[.int .i64 x0, .int .i64 x1, .int .i64 x2, .int .i64 x3, .int .i64 x4, .int .i64 x5, .int .i64 x6, .int .i64 x7] 33))
  have P6 := hid (M6.out w4)
  have GX : Hid (w4.heap.size < (w4.alloc (.cells #[.int .i64 x0, .int .i64 x1, .int .i64 x2, .int .i64 x3, .int .i64 x4, .int .i64 x5, .int .i64 x6, .int .i64 x7] 33)).heap.size) := by show _ < _; simp
  have D4 : Hid (Below v3.heap.size v3 (w4.alloc (.cells #[.int .i64 x0, .int .i64 x1, .int .i64 x2, .int .i64 x3, .int .i64 x4, .int .i64 x5, .int .i64 x6, .int .i64 x7] 33))) := hb.alloc hb.size _
  clear hb
  go_upto_region 7 with fail
  generalize w4.alloc (.cells #[.int .i64 x0, .int .i64 x1, .int .i64 x2, .int .i64 x3, .int .i64 x4, .int .i64 x5, .int .i64 x6, .int .i64 x7] 33) = v4 at *
  generalize w4.heap.size = g4 at *
  have G6' : Hid (g4 < v4.heap.size) := GX.out
  have C4 : Hid (∀ W, Below v4.heap.size v4 W → ∀ k (hk : k < n4.length), W.cell? ⟨g1, k, none⟩ = some (.int .u8 n4[k]) ∧ W.cell? ⟨g3, k, none⟩ = some (.int .i64 n4[k])) := fun W hW k hk => by
    have q1 := N4.out.step (D2.out) G4.out
    have l1 := Nat.lt_of_lt_of_le G4.out D2.out.size
    have q2 := q1.step D3.out l1
    have l2 := Nat.lt_of_lt_of_le l1 D3.out.size
    have q3 := q2.step D4.out l2
    have q4 := q3.step hW (Nat.lt_of_lt_of_le l2 D4.out.size)
    exact ⟨(q4.at k _ (u8v_at _ k _ (List.getElem?_eq_getElem hk))).1, rowI ((P4.out.step D4.out G4'.out).step hW (Nat.lt_of_lt_of_le G4'.out D4.out.size)) k hk⟩
  have C6 : Hid (∀ W, Below v4.heap.size v4 W → ∀ k (hk : k < n6.length), W.cell? ⟨g2, k, none⟩ = some (.int .u16 n6[k]) ∧ W.cell? ⟨g4, k, none⟩ = some (.int .i64 n6[k])) := fun W hW k hk => by
    have q2 := N6.out.step D3.out G6.out
    have l2 := Nat.lt_of_lt_of_le G6.out D3.out.size
    have q3 := q2.step D4.out l2
    exact ⟨rowU (q3.step hW (Nat.lt_of_lt_of_le l2 D4.out.size)) k hk, rowI (P6.out.step hW G6'.out) k hk⟩
  clear L4 L6 M4 M6 N4 N6 P4 P6 G4 G6 G4' G6' GX D2 D3 D4 H4 H6 R4 R6 O1 O2 O3
  go_wp2_with fail
  go_loopw [37] (fun i wr => ∃ k : Nat, i = .int .i64 k ∧ k ≤ 4 ∧ Hid (Below v4.heap.size v4 wr)) (fun i _ => 4 - (intOf i).toNat)
  case atStart => exact ⟨0, rfl, by omega, Below.refl _ _⟩
  case round =>
    obtain ⟨k, rfl, hk, HW⟩ := hrel
    by_cases hlt : k < 4
    · have hkl : k < n4.length := by omega
      obtain ⟨c1, c2⟩ := C4.out _ HW.out k hkl
      obtain ⟨b1, b2⟩ := B4.out n4[k] (List.getElem_mem hkl)
      have hwr : IntKind.i64.wrap n4[k] = n4[k] := by rw [IntKind.wrap_i64]; omega
      generalize n4[k] = x at *
      have hx : ((x : Int) != x) = false := by simp
      go_wp2_with fail
      go_region_held3 (fun w' => w'.cell? ⟨g1, k, none⟩ = some (.int .u8 x) ∧ w'.cell? ⟨g3, k, none⟩ = some (.int .i64 x)) (exact ⟨c1, c2⟩) (fail)
      go_wp2_with fail
      go_roundw
      case rel => exact ⟨k + 1, by go_num, by omega, HW.out.drew⟩
      case measure => simp [intOf]; omega
    · go_wp2_with fail
      go_loopw [49] (fun i wq => ∃ k : Nat, i = .int .i64 k ∧ k ≤ 8 ∧ Hid (Below v4.heap.size v4 wq)) (fun i _ => 8 - (intOf i).toNat)
      case atStart => exact ⟨0, rfl, by omega, HW⟩
      case round =>
        obtain ⟨k, rfl, hk, HW2⟩ := hrel
        by_cases hlt : k < 8
        · have hkl : k < n6.length := by omega
          obtain ⟨c1, c2⟩ := C6.out _ HW2.out k hkl
          obtain ⟨b1, b2⟩ := B6.out n6[k] (List.getElem_mem hkl)
          have hwr : IntKind.i64.wrap n6[k] = n6[k] := by rw [IntKind.wrap_i64]; omega
          generalize n6[k] = x at *
          have hx : ((x : Int) != x) = false := by simp
          go_wp2_with fail
          go_region_held3 (fun w' => w'.cell? ⟨g2, k, none⟩ = some (.int .u16 x) ∧ w'.cell? ⟨g4, k, none⟩ = some (.int .i64 x)) (exact ⟨c1, c2⟩) (fail)
          go_wp2_with fail
          go_roundw
          case rel => exact ⟨k + 1, by go_num, by omega, HW2.out.drew⟩
          case measure => simp [intOf]; omega
        · have O4' := hid (O4.out.step HW2.out)
          go_wp2_with fail
          refine (HF.out _ O4'.out.1).mono ?_
          rintro e w5 ⟨rfl, hb⟩
          have O5 := hid (O4'.out.step hb)
          clear hb
          go_wp2_with fail
          refine (RF.out _).mono ?_
          rintro e w6 ⟨rfl, rfl⟩
          go_wp2_with fail
          refine (HA.out _ O5.out.1).mono ?_
          rintro e w7 ⟨rfl, hb⟩
          have O6 := hid (O5.out.step hb)
          clear hb
          go_wp2_with fail
          go_ret
          exact ⟨rfl, O6.out.1⟩
end Ip
end Go.Proofs.YteimhepmcjdbpaaGreatDoor
