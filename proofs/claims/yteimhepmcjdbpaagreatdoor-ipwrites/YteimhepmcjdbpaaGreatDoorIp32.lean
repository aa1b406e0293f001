import Derived.Test.YteimhepmcjdbpaaGreatDoorIp30
import Derived.Test.YteimhepmcjdbpaaGreatDoorIp31
import Derived.Test.YteimhepmcjdbpaaGreatDoorIp27
import Derived.Deep.RegionHeld3
import Derived.ChangeKeysEq
namespace Go.Proofs.YteimhepmcjdbpaaGreatDoor
open Go.RowKit
namespace Ip

theorem guardB4 : Tryz.prog.eqGuardType Tryz.prog.depth 23 = false := by kernel_rfl
theorem run_eqB4 (a b c d : Int) (w : World) : (Op.equalIn 10000 23 (.agg #[.int .u8 a, .int .u8 b, .int .u8 c, .int .u8 d]) (.agg #[.int .u8 a, .int .u8 b, .int .u8 c, .int .u8 d])).run Tryz.prog w = .ok true w := by
  have hs : (Tryz.prog.info? 5).isSome = true := by kernel_rfl
  obtain ⟨i, hi⟩ := Option.isSome_iff_exists.1 hs
  rw [show 10000 = 9999 + 1 from rfl, run_equalIn_array w 9999 _ _ Tryz.underlying23 hi, cellsU8]
  have hp : ∀ (cs : Array Value) (off : Nat) (w : World), (part 5 cs off).run Tryz.prog w = (match cs[off]? with | some v => Result.ok v w | none => (part 5 cs off).run Tryz.prog w) := fun cs off w => by
    cases h : cs[off]? with
    | none => rfl
    | some v => simp [part, isAgg, run_underlying Tryz.underlying5, h]
  have he : ∀ (a b : Int) (w : World), (Op.equalIn 9999 5 (.int .u8 a) (.int .u8 b)).run Tryz.prog w = .ok (a == b) w := fun a b w => run_equalIn_int w 9998 5 .u8 .u8 a b Tryz.underlying5
  simp [List.range, List.range.loop, Op.eqItems, hp, he]
theorem run_eqW8 (x0 x1 x2 x3 x4 x5 x6 x7 : Int) (w : World) : (Op.equalIn 10000 27 (.agg #[.int .u16 x0, .int .u16 x1, .int .u16 x2, .int .u16 x3, .int .u16 x4, .int .u16 x5, .int .u16 x6, .int .u16 x7]) (.agg #[.int .u16 x0, .int .u16 x1, .int .u16 x2, .int .u16 x3, .int .u16 x4, .int .u16 x5, .int .u16 x6, .int .u16 x7])).run Tryz.prog w = .ok true w := by
  have hs : (Tryz.prog.info? 26).isSome = true := by kernel_rfl
  obtain ⟨i, hi⟩ := Option.isSome_iff_exists.1 hs
  rw [show 10000 = 9999 + 1 from rfl, run_equalIn_array w 9999 _ _ Tryz.underlying27 hi, cellsU16]
  have hp : ∀ (cs : Array Value) (off : Nat) (w : World), (part 26 cs off).run Tryz.prog w = (match cs[off]? with | some v => Result.ok v w | none => (part 26 cs off).run Tryz.prog w) := fun cs off w => by
    cases h : cs[off]? with
    | none => rfl
    | some v => simp [part, isAgg, run_underlying Tryz.underlying26, h]
  have he : ∀ (a b : Int) (w : World), (Op.equalIn 9999 26 (.int .u16 a) (.int .u16 b)).run Tryz.prog w = .ok (a == b) w := fun a b w => run_equalIn_int w 9998 26 .u16 .u16 a b Tryz.underlying26
  simp [List.range, List.range.loop, Op.eqItems, hp, he]

theorem row4u8 {w : World} {g : Nat} {a b c d : Int} (h : Li w g (u8v [a, b, c, d])) :
    w.cell? ⟨g, 0, none⟩ = some (.int .u8 a) ∧ w.cell? ⟨g, 1, none⟩ = some (.int .u8 b) ∧ w.cell? ⟨g, 2, none⟩ = some (.int .u8 c) ∧ w.cell? ⟨g, 3, none⟩ = some (.int .u8 d) :=
  ⟨(h.at 0 _ rfl).1, (h.at 1 _ rfl).1, (h.at 2 _ rfl).1, (h.at 3 _ rfl).1⟩
theorem row8u16 {w : World} {g : Nat} {x0 x1 x2 x3 x4 x5 x6 x7 : Int} (h : Li w g (u16v [x0, x1, x2, x3, x4, x5, x6, x7])) :
    w.cell? ⟨g, 0, none⟩ = some (.int .u16 x0) ∧ w.cell? ⟨g, 1, none⟩ = some (.int .u16 x1) ∧ w.cell? ⟨g, 2, none⟩ = some (.int .u16 x2) ∧ w.cell? ⟨g, 3, none⟩ = some (.int .u16 x3) ∧ w.cell? ⟨g, 4, none⟩ = some (.int .u16 x4) ∧ w.cell? ⟨g, 5, none⟩ = some (.int .u16 x5) ∧ w.cell? ⟨g, 6, none⟩ = some (.int .u16 x6) ∧ w.cell? ⟨g, 7, none⟩ = some (.int .u16 x7) :=
  ⟨(h.at 0 _ rfl).1, (h.at 1 _ rfl).1, (h.at 2 _ rfl).1, (h.at 3 _ rfl).1, (h.at 4 _ rfl).1, (h.at 5 _ rfl).1, (h.at 6 _ rfl).1, (h.at 7 _ rfl).1⟩

theorem tx6_len (ws : List Int) (h : ws.length = 8) : (tx6 ws).length ≤ 100 := by
  unfold tx6
  split
  · have := wrT_len ws; omega
  · have h1 := wrT_len (ws.take (lgT ws).2.2.1)
    have h2 := wrT_len (ws.drop ((lgT ws).2.2.1 + (lgT ws).2.2.2))
    rw [List.length_take] at h1
    rw [List.length_drop] at h2
    rw [List.length_append, List.length_append]
    show _ + 2 + _ ≤ _
    omega
theorem rdigI_any (x : Int) (w : World) (h0 : 0 ≤ x) (h1 : x ≤ 255) :
    Calls Tryz.prog 17 #[.int .i64 x] w fun e w' => e = .returned (.string ⟨(dtI x).toArray⟩) ∧ Below w.heap.size w w' := by
  obtain ⟨n, rfl⟩ := Int.eq_ofNat_of_zero_le h0
  refine (rdig_any n w (by omega)).mono ?_
  rintro e w' ⟨rfl, m, rfl⟩
  exact ⟨rfl, bel_drew (Below.refl _ _) m⟩

set_option maxRecDepth 100000 in
set_option maxHeartbeats 8000000 in
theorem writes_any (a b c d x0 x1 x2 x3 x4 x5 x6 x7 : Int) (w : World) (h4 : ∀ x ∈ [a, b, c, d], 0 ≤ x ∧ x ≤ 255) (h8 : ∀ x ∈ [x0, x1, x2, x3, x4, x5, x6, x7], 0 ≤ x ∧ x ≤ 65535) (hg : Gl w) (hd : Db w) (ht : Tb w) :
    Calls Tryz.prog 5 #[.agg #[.int .u8 a, .int .u8 b, .int .u8 c, .int .u8 d], .agg #[.int .u16 x0, .int .u16 x1, .int .u16 x2, .int .u16 x3, .int .u16 x4, .int .u16 x5, .int .u16 x6, .int .u16 x7]] w fun e w' => e = .returned (.bool true) ∧ Below w.heap.size w w' := by
  have hok := Ok.start w
  have HA := hid (fun W (h : Below w.heap.size w W) => awake_any W (hg.step h) (hd.step h))
  have HT4 := hid (fun W (h : Below w.heap.size w W) => text4_any a b c d W h4 (ht.step h))
  have HT6 := hid (fun W (h : Below w.heap.size w W) => text6_any x0 x1 x2 x3 x4 x5 x6 x7 W h8 (hd.step h))
  have HR6 := hid (fun W => rtext6_any x0 x1 x2 x3 x4 x5 x6 x7 W h8)
  obtain ⟨a0, a1⟩ := h4 a (by simp)
  obtain ⟨b0, b1⟩ := h4 b (by simp)
  obtain ⟨c0, c1⟩ := h4 c (by simp)
  obtain ⟨d0, d1⟩ := h4 d (by simp)
  have HDa := hid (fun W => rdigI_any a W a0 a1)
  have HDb := hid (fun W => rdigI_any b W b0 b1)
  have HDc := hid (fun W => rdigI_any c W c0 c1)
  have HDd := hid (fun W => rdigI_any d W d0 d1)
  have wa : IntKind.i64.wrap a = a := by rw [IntKind.wrap_i64]; omega
  have wb : IntKind.i64.wrap b = b := by rw [IntKind.wrap_i64]; omega
  have wc : IntKind.i64.wrap c = c := by rw [IntKind.wrap_i64]; omega
  have wd : IntKind.i64.wrap d = d := by rw [IntKind.wrap_i64]; omega
  have HX := hid h8
  -- the texts
  have hv4 : v4L (dtT [a, b, c, d]) = ([a, b, c, d], true) := by rw [tx4_is]; exact v4_tx a b c d a0 a1 b0 b1 c0 c1 d0 d1
  have hv6 : v6L (tx6 [x0, x1, x2, x3, x4, x5, x6, x7]) = ([x0, x1, x2, x3, x4, x5, x6, x7], true) := v6_tx _ rfl h8
  have hs1 := dtI_len a
  have hs2 := dtI_len b
  have hs3 := dtI_len c
  have hs4 := dtI_len d
  have hT : (⟨(dtT [a, b, c, d]).toArray⟩ : ByteArray) = (⟨(dtI a).toArray⟩ : ByteArray) ++ (⟨#[46]⟩ : ByteArray) ++ (⟨(dtI b).toArray⟩ : ByteArray) ++ (⟨#[46]⟩ : ByteArray) ++ (⟨(dtI c).toArray⟩ : ByteArray) ++ (⟨#[46]⟩ : ByteArray) ++ (⟨(dtI d).toArray⟩ : ByteArray) := by
    apply bytes_ext; simp [dtT]
  have HV4 : Hid (∀ W, Below w.heap.size w W → Calls Tryz.prog 7 #[.string ⟨(dtT [a, b, c, d]).toArray⟩] W fun e w' => e = .returned (.tuple #[.agg #[.int .u8 a, .int .u8 b, .int .u8 c, .int .u8 d], .bool true]) ∧ Below W.heap.size W w') := fun W h => by
    have h1 := v4_any ⟨(dtT [a, b, c, d]).toArray⟩ W (by rw [ba_size, tx4_is]; unfold tx4; have q1 := dtI_len a; have q2 := dtI_len b; have q3 := dtI_len c; have q4 := dtI_len d; unfold dtI at q1 q2 q3 q4; simp; omega) (hg.step h)
    have e : (⟨(dtT [a, b, c, d]).toArray⟩ : ByteArray).data.toList = dtT [a, b, c, d] := by simp
    rw [e, hv4] at h1
    exact h1
  have HV6 : Hid (∀ W, Below w.heap.size w W → Calls Tryz.prog 8 #[.string ⟨(tx6 [x0, x1, x2, x3, x4, x5, x6, x7]).toArray⟩] W fun e w' => e = .returned (.tuple #[.agg #[.int .u16 x0, .int .u16 x1, .int .u16 x2, .int .u16 x3, .int .u16 x4, .int .u16 x5, .int .u16 x6, .int .u16 x7], .bool true]) ∧ Below W.heap.size W w') := fun W h => by
    have h1 := v6_any ⟨(tx6 [x0, x1, x2, x3, x4, x5, x6, x7]).toArray⟩ W (by rw [ba_size]; have := tx6_len [x0, x1, x2, x3, x4, x5, x6, x7] rfl; omega) (hg.step h)
    have e : (⟨(tx6 [x0, x1, x2, x3, x4, x5, x6, x7]).toArray⟩ : ByteArray).data.toList = tx6 [x0, x1, x2, x3, x4, x5, x6, x7] := by simp
    rw [e, hv6] at h1
    exact h1
  rw [hT] at HT4 HV4
  rw [← ba_size] at hs1 hs2 hs3 hs4
  clear hT hv4 hv6 hg hd ht h4 h8
  generalize (⟨(dtI a).toArray⟩ : ByteArray) = r1 at *
  generalize (⟨(dtI b).toArray⟩ : ByteArray) = r2 at *
  generalize (⟨(dtI c).toArray⟩ : ByteArray) = r3 at *
  generalize (⟨(dtI d).toArray⟩ : ByteArray) = r4 at *
  generalize (⟨(tx6 [x0, x1, x2, x3, x4, x5, x6, x7]).toArray⟩ : ByteArray) = s6 at *
  have n1 : ¬ 9223372036854775807 < r1.size + 1 := by omega
  have n2 : ¬ 9223372036854775807 < r1.size + 1 + r2.size := by omega
  have n3 : ¬ 9223372036854775807 < r1.size + 1 + r2.size + 1 := by omega
  have n4 : ¬ 9223372036854775807 < r1.size + 1 + r2.size + 1 + r3.size := by omega
  have n5 : ¬ 9223372036854775807 < r1.size + 1 + r2.size + 1 + r3.size + 1 := by omega
  have n6 : ¬ 9223372036854775807 < r1.size + 1 + r2.size + 1 + r3.size + 1 + r4.size := by omega
  clear hs1 hs2 hs3 hs4
  have La : Hid (Li (w.alloc (.cells #[.int .u8 a, .int .u8 b, .int .u8 c, .int .u8 d] 23)) w.heap.size (u8v [a, b, c, d])) := Li.new w _ _
  have Lb : Hid (Li ((w.alloc (.cells #[.int .u8 a, .int .u8 b, .int .u8 c, .int .u8 d] 23)).alloc (.cells #[.int .u16 x0, .int .u16 x1, .int .u16 x2, .int .u16 x3, .int .u16 x4, .int .u16 x5, .int .u16 x6, .int .u16 x7] 27)) (w.alloc (.cells #[.int .u8 a, .int .u8 b, .int .u8 c, .int .u8 d] 23)).heap.size (u16v [x0, x1, x2, x3, x4, x5, x6, x7])) := Li.new _ _ _
  have hz : (w.alloc (.cells #[.int .u8 a, .int .u8 b, .int .u8 c, .int .u8 d] 23)).heap.size = w.heap.size + 1 := by simp
  rw [hz] at Lb
  have La2 : Hid (Li ((w.alloc (.cells #[.int .u8 a, .int .u8 b, .int .u8 c, .int .u8 d] 23)).alloc (.cells #[.int .u16 x0, .int .u16 x1, .int .u16 x2, .int .u16 x3, .int .u16 x4, .int .u16 x5, .int .u16 x6, .int .u16 x7] 27)) w.heap.size (u8v [a, b, c, d])) := La.out.step ((Below.refl _ _).alloc (Nat.le_refl _) _) (by simp)
  have O0 := hid ((hok.alloc (o := .cells #[.int .u8 a, .int .u8 b, .int .u8 c, .int .u8 d] 23)).alloc (o := .cells #[.int .u16 x0, .int .u16 x1, .int .u16 x2, .int .u16 x3, .int .u16 x4, .int .u16 x5, .int .u16 x6, .int .u16 x7] 27))
  have G0 : Hid (w.heap.size + 2 ≤ ((w.alloc (.cells #[.int .u8 a, .int .u8 b, .int .u8 c, .int .u8 d] 23)).alloc (.cells #[.int .u16 x0, .int .u16 x1, .int .u16 x2, .int .u16 x3, .int .u16 x4, .int .u16 x5, .int .u16 x6, .int .u16 x7] 27)).heap.size) := by show _ ≤ _; simp
  clear La hz hok
  go_enter Tryz.func5, Tryz.ntmps5
  go_wp2_with fail
  generalize (w.alloc (.cells #[.int .u8 a, .int .u8 b, .int .u8 c, .int .u8 d] 23)).alloc (.cells #[.int .u16 x0, .int .u16 x1, .int .u16 x2, .int .u16 x3, .int .u16 x4, .int .u16 x5, .int .u16 x6, .int .u16 x7] 27) = v0 at *
  have HC : Hid (∀ W, Below v0.heap.size v0 W → ((W.cell? ⟨w.heap.size, 0, none⟩ = some (.int .u8 a) ∧ W.cell? ⟨w.heap.size, 1, none⟩ = some (.int .u8 b) ∧ W.cell? ⟨w.heap.size, 2, none⟩ = some (.int .u8 c) ∧ W.cell? ⟨w.heap.size, 3, none⟩ = some (.int .u8 d)) ∧ W.cell? ⟨w.heap.size + 1, 0, none⟩ = some (.int .u16 x0) ∧ W.cell? ⟨w.heap.size + 1, 1, none⟩ = some (.int .u16 x1) ∧ W.cell? ⟨w.heap.size + 1, 2, none⟩ = some (.int .u16 x2) ∧ W.cell? ⟨w.heap.size + 1, 3, none⟩ = some (.int .u16 x3) ∧ W.cell? ⟨w.heap.size + 1, 4, none⟩ = some (.int .u16 x4) ∧ W.cell? ⟨w.heap.size + 1, 5, none⟩ = some (.int .u16 x5) ∧ W.cell? ⟨w.heap.size + 1, 6, none⟩ = some (.int .u16 x6) ∧ W.cell? ⟨w.heap.size + 1, 7, none⟩ = some (.int .u16 x7))) := fun W h => by
    have q1 := row4u8 (La2.out.step h (by have := G0.out; omega))
    have q2 := row8u16 (Lb.out.step h (by have := G0.out; omega))
    exact ⟨q1, q2⟩
  have B0 : Hid (Below v0.heap.size v0 v0.drew) := (Below.refl _ _).drew
  go_region_held3 (fun w' => ((w'.cell? ⟨w.heap.size, 0, none⟩ = some (.int .u8 a) ∧ w'.cell? ⟨w.heap.size, 1, none⟩ = some (.int .u8 b) ∧ w'.cell? ⟨w.heap.size, 2, none⟩ = some (.int .u8 c) ∧ w'.cell? ⟨w.heap.size, 3, none⟩ = some (.int .u8 d)) ∧ w'.cell? ⟨w.heap.size + 1, 0, none⟩ = some (.int .u16 x0) ∧ w'.cell? ⟨w.heap.size + 1, 1, none⟩ = some (.int .u16 x1) ∧ w'.cell? ⟨w.heap.size + 1, 2, none⟩ = some (.int .u16 x2) ∧ w'.cell? ⟨w.heap.size + 1, 3, none⟩ = some (.int .u16 x3) ∧ w'.cell? ⟨w.heap.size + 1, 4, none⟩ = some (.int .u16 x4) ∧ w'.cell? ⟨w.heap.size + 1, 5, none⟩ = some (.int .u16 x5) ∧ w'.cell? ⟨w.heap.size + 1, 6, none⟩ = some (.int .u16 x6) ∧ w'.cell? ⟨w.heap.size + 1, 7, none⟩ = some (.int .u16 x7)))
    (exact HC.out _ B0.out)
    (first
      | (go_at_call 15; refine (HT4.out _ (O0.out.1.trans (B0.out.mono O0.out.2))).mono ?_; rintro e w1 ⟨rfl, hb1⟩; have B1 := hid (B0.out.trans (hb1.mono B0.out.size)); clear B0; have B0 := B1; clear B1 hb1)
      | (go_at_call 16; refine (HT6.out _ (O0.out.1.trans (B0.out.mono O0.out.2))).mono ?_; rintro e w1 ⟨rfl, hb1⟩; have B1 := hid (B0.out.trans (hb1.mono B0.out.size)); clear B0; have B0 := B1; clear B1 hb1))
  go_upto_region 3 with fail
  obtain ⟨xs, hxs⟩ : ∃ xs, xs = [x0, x1, x2, x3, x4, x5, x6, x7] := ⟨_, rfl⟩
  have hsz : xs.length = 8 := by rw [hxs]; rfl
  have Ly : Hid (Li (w1.alloc (.cells #[.int .i64 0, .int .i64 0, .int .i64 0, .int .i64 0, .int .i64 0, .int .i64 0, .int .i64 0, .int .i64 0] 33)) w1.heap.size (i64v (xs.take 0 ++ List.replicate (8 - 0) 0))) := by
    rw [List.take_zero]; exact Li.new w1 _ _
  have P0 : Hid ((Below v0.heap.size v0 (w1.alloc (.cells #[.int .i64 0, .int .i64 0, .int .i64 0, .int .i64 0, .int .i64 0, .int .i64 0, .int .i64 0, .int .i64 0] 33)) ∧ w1.heap.size < (w1.alloc (.cells #[.int .i64 0, .int .i64 0, .int .i64 0, .int .i64 0, .int .i64 0, .int .i64 0, .int .i64 0, .int .i64 0] 33)).heap.size) ∧ v0.heap.size ≤ w1.heap.size) :=
    ⟨⟨B0.out.alloc B0.out.size _, by simp⟩, B0.out.size⟩
  have HCb : Hid (∀ W, Below v0.heap.size v0 W → ∀ k (hk : k < xs.length), W.cell? ⟨w.heap.size + 1, k, none⟩ = some (.int .u16 xs[k])) := fun W h k hk => by
    have h1 : Li v0 (w.heap.size + 1) (u16v xs) := by rw [hxs]; exact Lb.out
    exact rowU (h1.step h (by have := G0.out; omega)) k hk
  have HXs : Hid (∀ x ∈ xs, 0 ≤ x ∧ x ≤ 65535) := by rw [hxs]; exact HX.out
  have HXS := hid hxs
  clear hxs B0 La2 Lb HX HT4 HT6
  generalize w1.alloc (.cells #[.int .i64 0, .int .i64 0, .int .i64 0, .int .i64 0, .int .i64 0, .int .i64 0, .int .i64 0, .int .i64 0] 33) = v1 at *
  generalize w1.heap.size = gy at *
  have hgy : v0.heap.size ≤ gy := P0.out.2
  have HGY := hid hgy
  clear hgy
  go_wp2_with fail
  go_loopw [17] (fun i wr => ∃ k : Nat, i = .int .i64 k ∧ k ≤ 8 ∧ Hid (Below v0.heap.size v0 wr ∧ gy < wr.heap.size) ∧ Hid (Li wr gy (i64v (xs.take k ++ List.replicate (8 - k) 0)))) (fun i _ => 8 - (intOf i).toNat)
  case atStart => exact ⟨0, rfl, by omega, P0.out.1, Ly.out⟩
  case round =>
    obtain ⟨k, rfl, hk, PO, P1⟩ := hrel
    clear Ly P0
    by_cases hlt : k < 8
    · have hkx : k < xs.length := by omega
      have cx := HCb.out _ PO.out.1 k hkx
      obtain ⟨y1, y2⟩ := HXs.out xs[k] (List.getElem_mem hkx)
      have hwr : IntKind.i64.wrap xs[k] = xs[k] := by rw [IntKind.wrap_i64]; omega
      have HS : Hid (xs.take (k + 1) = xs.take k ++ [xs[k]]) := by show _ = _; rw [List.take_succ_eq_append_getElem hkx]
      have HT : Hid ((xs.take k).length = k) := by show _ = _; rw [List.length_take]; omega
      generalize xs[k] = x at *
      obtain ⟨u0, hck⟩ : ∃ v, (i64v (xs.take k ++ List.replicate (8 - k) 0))[k]? = some v := ⟨_, List.getElem?_eq_getElem (by rw [i64v_len]; have := HT.out; simp; omega)⟩
      obtain ⟨ck, zk⟩ := P1.out.at k u0 hck
      have N1 := hid (P1.out.set k (.int .i64 x))
      have NO : Hid (Below v0.heap.size v0 (wr.setCell ⟨gy, k, none⟩ (.int .i64 x)) ∧ gy < (wr.setCell ⟨gy, k, none⟩ (.int .i64 x)).heap.size) :=
        ⟨PO.out.1.setCell HGY.out _, by have h := PO.out.2; simpa [World.setCell] using h⟩
      clear P1 PO hck y1 y2
      go_wp2_with fail
      go_roundw
      case rel =>
        refine ⟨k + 1, by go_num, by omega, NO, ?_⟩
        have h := N1.out
        rw [i64v_set, set_next8 (xs.take k) k x HT.out hlt, ← HS.out] at h
        exact h
      case measure => simp [intOf]; omega
    · have hk8 : k = 8 := by omega
      subst hk8
      have LY : Hid (Li wr gy (i64v [x0, x1, x2, x3, x4, x5, x6, x7])) := by
        have h := P1.out
        rw [List.take_of_length_le (by omega), show List.replicate (8 - 8) (0 : Int) = [] from rfl, List.append_nil, HXS.out] at h
        exact h
      have O1 := hid (O0.out.step PO.out.1)
      clear P1 HCb HXs HXS hlt hsz
      go_wp2_with fail
      refine (HV4.out _ O1.out.1).mono ?_
      rintro e w2 ⟨rfl, hb⟩
      have Lx : Hid (Li (w2.alloc (.cells #[.int .u8 a, .int .u8 b, .int .u8 c, .int .u8 d] 23)) w2.heap.size (u8v [a, b, c, d])) := Li.new w2 _ _
      have D2 : Hid (Below wr.heap.size wr (w2.alloc (.cells #[.int .u8 a, .int .u8 b, .int .u8 c, .int .u8 d] 23))) := hb.alloc hb.size _
      have GX : Hid (w2.heap.size < (w2.alloc (.cells #[.int .u8 a, .int .u8 b, .int .u8 c, .int .u8 d] 23)).heap.size) := by show _ < _; simp
      have O2 := hid (O1.out.step D2.out)
      clear hb
      go_upto_region 9 with fail
      generalize w2.alloc (.cells #[.int .u8 a, .int .u8 b, .int .u8 c, .int .u8 d] 23) = v2 at *
      generalize w2.heap.size = gx at *
      go_wp2_with fail
      refine (HV6.out _ O2.out.1).mono ?_
      rintro e w3 ⟨rfl, hb⟩
      have Lz : Hid (Li (w3.alloc (.cells #[.int .u16 x0, .int .u16 x1, .int .u16 x2, .int .u16 x3, .int .u16 x4, .int .u16 x5, .int .u16 x6, .int .u16 x7] 27)) w3.heap.size (u16v [x0, x1, x2, x3, x4, x5, x6, x7])) := Li.new w3 _ _
      have D3 : Hid (Below v2.heap.size v2 (w3.alloc (.cells #[.int .u16 x0, .int .u16 x1, .int .u16 x2, .int .u16 x3, .int .u16 x4, .int .u16 x5, .int .u16 x6, .int .u16 x7] 27))) := hb.alloc hb.size _
      have GZ : Hid (w3.heap.size < (w3.alloc (.cells #[.int .u16 x0, .int .u16 x1, .int .u16 x2, .int .u16 x3, .int .u16 x4, .int .u16 x5, .int .u16 x6, .int .u16 x7] 27)).heap.size) := by show _ < _; simp
      have O3 := hid (O2.out.step D3.out)
      clear hb
      go_upto_region 10 with fail
      generalize w3.alloc (.cells #[.int .u16 x0, .int .u16 x1, .int .u16 x2, .int .u16 x3, .int .u16 x4, .int .u16 x5, .int .u16 x6, .int .u16 x7] 27) = v3 at *
      generalize w3.heap.size = gz at *
      have HCF : Hid (∀ W, Below v3.heap.size v3 W → (((W.cell? ⟨w.heap.size, 0, none⟩ = some (.int .u8 a) ∧ W.cell? ⟨w.heap.size, 1, none⟩ = some (.int .u8 b) ∧ W.cell? ⟨w.heap.size, 2, none⟩ = some (.int .u8 c) ∧ W.cell? ⟨w.heap.size, 3, none⟩ = some (.int .u8 d)) ∧ W.cell? ⟨w.heap.size + 1, 0, none⟩ = some (.int .u16 x0) ∧ W.cell? ⟨w.heap.size + 1, 1, none⟩ = some (.int .u16 x1) ∧ W.cell? ⟨w.heap.size + 1, 2, none⟩ = some (.int .u16 x2) ∧ W.cell? ⟨w.heap.size + 1, 3, none⟩ = some (.int .u16 x3) ∧ W.cell? ⟨w.heap.size + 1, 4, none⟩ = some (.int .u16 x4) ∧ W.cell? ⟨w.heap.size + 1, 5, none⟩ = some (.int .u16 x5) ∧ W.cell? ⟨w.heap.size + 1, 6, none⟩ = some (.int .u16 x6) ∧ W.cell? ⟨w.heap.size + 1, 7, none⟩ = some (.int .u16 x7)) ∧ (W.cell? ⟨gy, 0, none⟩ = some (.int .i64 x0) ∧ W.cell? ⟨gy, 1, none⟩ = some (.int .i64 x1) ∧ W.cell? ⟨gy, 2, none⟩ = some (.int .i64 x2) ∧ W.cell? ⟨gy, 3, none⟩ = some (.int .i64 x3) ∧ W.cell? ⟨gy, 4, none⟩ = some (.int .i64 x4) ∧ W.cell? ⟨gy, 5, none⟩ = some (.int .i64 x5) ∧ W.cell? ⟨gy, 6, none⟩ = some (.int .i64 x6) ∧ W.cell? ⟨gy, 7, none⟩ = some (.int .i64 x7)) ∧ (W.cell? ⟨gx, 0, none⟩ = some (.int .u8 a) ∧ W.cell? ⟨gx, 1, none⟩ = some (.int .u8 b) ∧ W.cell? ⟨gx, 2, none⟩ = some (.int .u8 c) ∧ W.cell? ⟨gx, 3, none⟩ = some (.int .u8 d)) ∧ W.cell? ⟨gz, 0, none⟩ = some (.int .u16 x0) ∧ W.cell? ⟨gz, 1, none⟩ = some (.int .u16 x1) ∧ W.cell? ⟨gz, 2, none⟩ = some (.int .u16 x2) ∧ W.cell? ⟨gz, 3, none⟩ = some (.int .u16 x3) ∧ W.cell? ⟨gz, 4, none⟩ = some (.int .u16 x4) ∧ W.cell? ⟨gz, 5, none⟩ = some (.int .u16 x5) ∧ W.cell? ⟨gz, 6, none⟩ = some (.int .u16 x6) ∧ W.cell? ⟨gz, 7, none⟩ = some (.int .u16 x7))) := fun W h => by
        have t3 := D3.out.trans (h.mono D3.out.size)
        have t2 := D2.out.trans (t3.mono D2.out.size)
        have t1 := PO.out.1.trans (t2.mono PO.out.1.size)
        have y := row8i (LY.out.step t2 PO.out.2)
        have x := row4u8 (Lx.out.step t3 GX.out)
        have z := row8u16 (Lz.out.step h GZ.out)
        exact ⟨HC.out W t1, y, x, z⟩
      clear HC LY Lx Lz D2 D3 GX GZ O0 O1 O2 G0 HV4 HV6 PO HGY
      have q4 := run_eqB4 a b c d
      have q8 := run_eqW8 x0 x1 x2 x3 x4 x5 x6 x7
      have g4 := guardB4
      have g8 := guard8
      have B3 : Hid (Below v3.heap.size v3 v3.drew) := (Below.refl _ _).drew
      have F1 : True := trivial
      have F2 : True := trivial
      have F3 : True := trivial
      have F4 : True := trivial
      go_region_held3 (fun w' => (((w'.cell? ⟨w.heap.size, 0, none⟩ = some (.int .u8 a) ∧ w'.cell? ⟨w.heap.size, 1, none⟩ = some (.int .u8 b) ∧ w'.cell? ⟨w.heap.size, 2, none⟩ = some (.int .u8 c) ∧ w'.cell? ⟨w.heap.size, 3, none⟩ = some (.int .u8 d)) ∧ w'.cell? ⟨w.heap.size + 1, 0, none⟩ = some (.int .u16 x0) ∧ w'.cell? ⟨w.heap.size + 1, 1, none⟩ = some (.int .u16 x1) ∧ w'.cell? ⟨w.heap.size + 1, 2, none⟩ = some (.int .u16 x2) ∧ w'.cell? ⟨w.heap.size + 1, 3, none⟩ = some (.int .u16 x3) ∧ w'.cell? ⟨w.heap.size + 1, 4, none⟩ = some (.int .u16 x4) ∧ w'.cell? ⟨w.heap.size + 1, 5, none⟩ = some (.int .u16 x5) ∧ w'.cell? ⟨w.heap.size + 1, 6, none⟩ = some (.int .u16 x6) ∧ w'.cell? ⟨w.heap.size + 1, 7, none⟩ = some (.int .u16 x7)) ∧ (w'.cell? ⟨gy, 0, none⟩ = some (.int .i64 x0) ∧ w'.cell? ⟨gy, 1, none⟩ = some (.int .i64 x1) ∧ w'.cell? ⟨gy, 2, none⟩ = some (.int .i64 x2) ∧ w'.cell? ⟨gy, 3, none⟩ = some (.int .i64 x3) ∧ w'.cell? ⟨gy, 4, none⟩ = some (.int .i64 x4) ∧ w'.cell? ⟨gy, 5, none⟩ = some (.int .i64 x5) ∧ w'.cell? ⟨gy, 6, none⟩ = some (.int .i64 x6) ∧ w'.cell? ⟨gy, 7, none⟩ = some (.int .i64 x7)) ∧ (w'.cell? ⟨gx, 0, none⟩ = some (.int .u8 a) ∧ w'.cell? ⟨gx, 1, none⟩ = some (.int .u8 b) ∧ w'.cell? ⟨gx, 2, none⟩ = some (.int .u8 c) ∧ w'.cell? ⟨gx, 3, none⟩ = some (.int .u8 d)) ∧ w'.cell? ⟨gz, 0, none⟩ = some (.int .u16 x0) ∧ w'.cell? ⟨gz, 1, none⟩ = some (.int .u16 x1) ∧ w'.cell? ⟨gz, 2, none⟩ = some (.int .u16 x2) ∧ w'.cell? ⟨gz, 3, none⟩ = some (.int .u16 x3) ∧ w'.cell? ⟨gz, 4, none⟩ = some (.int .u16 x4) ∧ w'.cell? ⟨gz, 5, none⟩ = some (.int .u16 x5) ∧ w'.cell? ⟨gz, 6, none⟩ = some (.int .u16 x6) ∧ w'.cell? ⟨gz, 7, none⟩ = some (.int .u16 x7)))
        (exact HCF.out _ B3.out)
        (first
          | (clear F1; go_at_call 17; refine (HDa.out _).mono ?_; rintro e w4 ⟨rfl, hb1⟩; have B4 := hid (B3.out.trans (hb1.mono B3.out.size)); clear B3; have B3 := B4; clear B4 hb1)
          | (clear F2; go_at_call 17; refine (HDb.out _).mono ?_; rintro e w4 ⟨rfl, hb1⟩; have B4 := hid (B3.out.trans (hb1.mono B3.out.size)); clear B3; have B3 := B4; clear B4 hb1)
          | (clear F3; go_at_call 17; refine (HDc.out _).mono ?_; rintro e w4 ⟨rfl, hb1⟩; have B4 := hid (B3.out.trans (hb1.mono B3.out.size)); clear B3; have B3 := B4; clear B4 hb1)
          | (clear F4; go_at_call 17; refine (HDd.out _).mono ?_; rintro e w4 ⟨rfl, hb1⟩; have B4 := hid (B3.out.trans (hb1.mono B3.out.size)); clear B3; have B3 := B4; clear B4 hb1)
          | (go_at_call 18; refine (HR6.out _).mono ?_; rintro e w4 ⟨rfl, hb1⟩; have B4 := hid (B3.out.trans (hb1.mono B3.out.size)); clear B3; have B3 := B4; clear B4 hb1)
          | (go_at_call 6; refine (HA.out _ (O3.out.1.trans (B3.out.mono O3.out.2))).mono ?_; rintro e w4 ⟨rfl, hb1⟩; have B4 := hid (B3.out.trans (hb1.mono B3.out.size)); clear B3; have B3 := B4; clear B4 hb1))
      all_goals go_wp2_with fail
      all_goals go_ret
      all_goals exact ⟨rfl, O3.out.1.trans (B3.out.mono O3.out.2)⟩
end Ip
end Go.Proofs.YteimhepmcjdbpaaGreatDoor
