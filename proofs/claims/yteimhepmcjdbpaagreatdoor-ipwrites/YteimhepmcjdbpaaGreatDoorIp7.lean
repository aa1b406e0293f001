import Derived.Test.YteimhepmcjdbpaaGreatDoorIp6
import Derived.Laws.CopyOwn
import Derived.Deep.RegionLaw
namespace Go.Proofs.YteimhepmcjdbpaaGreatDoor
open Go.RowKit
namespace Ip

def u16v (l : List Int) : List Value := l.map fun x => .int .u16 x
def z8 : List Int := [0, 0, 0, 0, 0, 0, 0, 0]
/-- An IPv6 address, if a text is one. -/
def v6L (l : List UInt8) : List Int × Bool :=
  if (cuG [58, 58] l).2.2 = false then (match reL true l with | some ws => if ws.length = 8 then (ws, true) else (z8, false) | none => (z8, false))
  else match reL false (cuG [58, 58] l).1, reL true (cuG [58, 58] l).2.1 with
    | some hs, some ts => if hs.length + ts.length < 8 then (hs ++ List.replicate (8 - hs.length - ts.length) 0 ++ ts, true) else (z8, false)
    | _, _ => (z8, false)

theorem reL_le (q : Bool) (l : List UInt8) (ws : List Int) (h : reL q l = some ws) : ws.length ≤ 8 := by
  unfold reL at h
  split at h
  · cases h; exact Nat.zero_le _
  · unfold reS at h
    split at h
    · split at h
      · rename_i h8; cases h; simpa using h8
      · cases h
    · cases h

/-- What V6 keeps of its result's block. -/
structure Vs (w W : World) : Prop where
  ok : Ok w.heap.size w W
  sz : w.heap.size + 1 ≤ W.heap.size
  zero : Li W w.heap.size (u16v z8)
theorem Vs.step {w W W' : World} (h : Vs w W) (hb : Below W.heap.size W W') : Vs w W' := ⟨h.ok.step hb, Nat.le_trans h.sz hb.size, h.zero.step hb (by have := h.sz; omega)⟩
theorem Vs.alloc {w W : World} (h : Vs w W) (o : Obj) : Vs w (W.alloc o) := h.step ((Below.refl _ _).alloc (Nat.le_refl _) _)
theorem pts_full (ws : List Int) (h : ws.length = 8) {v0 v1 v2 v3 v4 v5 v6 v7 : Int} (e : ws ++ List.replicate (8 - ws.length) 0 = [v0, v1, v2, v3, v4, v5, v6, v7]) : ws = [v0, v1, v2, v3, v4, v5, v6, v7] := by
  rw [h] at e; simpa using e

theorem fin_list (hs ts : List Int) {h0 h1 h2 h3 h4 h5 h6 h7 t0 t1 t2 t3 t4 t5 t6 t7 : Int} (eh : hs ++ List.replicate (8 - hs.length) 0 = [h0, h1, h2, h3, h4, h5, h6, h7]) (et : ts ++ List.replicate (8 - ts.length) 0 = [t0, t1, t2, t3, t4, t5, t6, t7]) (h : hs.length + ts.length < 8) :
    hs ++ List.replicate (8 - hs.length - ts.length) 0 ++ ts = [h0, h1, h2, h3, h4, h5, h6, h7].take (8 - ts.length) ++ [t0, t1, t2, t3, t4, t5, t6, t7].take ts.length := by
  rw [← eh, ← et, List.take_append, List.take_of_length_le (by omega), List.take_replicate, List.take_append, List.take_of_length_le (Nat.le_refl _), Nat.sub_self, List.take_zero, List.append_nil]
  congr 3
  omega

theorem Li.pre {w : World} {g : Nat} {l : List Value} (h : Li w g l) (cs : List Value) (hc : cs = l.take cs.length) (j : Nat) (v : Value) (hj : cs[j]? = some v) : w.drew.cell? ((⟨g, 0, none⟩ : Addr).add j) = some v := by
  have hlt := (List.getElem?_eq_some_iff.1 hj).1
  have e : l[j]? = some v := by rw [hc, List.getElem?_take_of_lt hlt] at hj; exact hj
  have := (h.at j v e).1
  unfold Addr.add
  by_cases h0 : j = 0
  · subst h0; exact this
  · rw [if_neg h0]; simpa using this
theorem one_u16 {l : List Int} {v : Value} (h : v ∈ l.map (Value.int .u16 ·)) : v.oneCell' = true := by
  obtain ⟨x, _, rfl⟩ := List.mem_map.1 h; rfl
theorem Vs.far {w W W' : World} {B : Nat} (h : Vs w W) (hb : Below B W W') (hB : w.heap.size < B) : Vs w W' :=
  ⟨⟨h.ok.1.trans (hb.mono (by omega)), Nat.le_trans h.ok.2 hb.size⟩, Nat.le_trans h.sz hb.size, h.zero.below hb hB⟩
theorem row8 {w : World} {g : Nat} {t : TypeId} {a b c d e f x y : Value} (h : w.heap[g]? = some (.cells [a, b, c, d, e, f, x, y].toArray t (0, 0))) :
    w.cell? ⟨g, 0, none⟩ = some a ∧ w.cell? ⟨g, 1, none⟩ = some b ∧ w.cell? ⟨g, 2, none⟩ = some c ∧ w.cell? ⟨g, 3, none⟩ = some d ∧ w.cell? ⟨g, 4, none⟩ = some e ∧ w.cell? ⟨g, 5, none⟩ = some f ∧ w.cell? ⟨g, 6, none⟩ = some x ∧ w.cell? ⟨g, 7, none⟩ = some y := by
  have c : ∀ j, w.cell? ⟨g, j, none⟩ = [a, b, c, d, e, f, x, y].toArray[j]? := fun j => cell_of_row w g j _ t (0, 0) h
  exact ⟨c 0, c 1, c 2, c 3, c 4, c 5, c 6, c 7⟩

theorem info_u16 : (Tryz.prog.info? 26).map (·.size) = some 1 := by kernel_rfl
set_option maxRecDepth 100000 in
set_option maxHeartbeats 8000000 in
theorem v6_any (s : ByteArray) (w : World) (hs : s.size ≤ 1000) (hg : Gl w) :
    Calls Tryz.prog 8 #[.string s] w fun e w' => e = .returned (.tuple #[.agg (u16v (v6L s.data.toList).1).toArray, .bool (v6L s.data.toList).2]) ∧ Below w.heap.size w w' := by
  have HG := hid hg
  clear hg
  have HRW := hid (fun W (h : Below w.heap.size w W) => read_any s true W hs (HG.out.step h))
  have HC := hid (fun W (h : Below w.heap.size w W) => cut_any s ⟨#[58, 58]⟩ W hs (by simp) (HG.out.step h))
  have e58 : (ByteArray.mk #[58, 58]).data.toList = [58, 58] := rfl
  rw [e58] at HC
  have hl := cuG_len [58, 58] s.data.toList
  rw [len_size] at hl
  have HRH := hid (fun W (h : Below w.heap.size w W) => read_any ⟨(cuG [58, 58] s.data.toList).1.toArray⟩ false W (by show (cuG [58, 58] s.data.toList).1.toArray.size ≤ _; simp; omega) (HG.out.step h))
  have HRT := hid (fun W (h : Below w.heap.size w W) => read_any ⟨(cuG [58, 58] s.data.toList).2.1.toArray⟩ true W (by show (cuG [58, 58] s.data.toList).2.1.toArray.size ≤ _; simp; omega) (HG.out.step h))
  have eb : ∀ l : List UInt8, (ByteArray.mk l.toArray).data.toList = l := fun l => by simp
  rw [eb] at HRH HRT
  have HV : Hid (v6L s.data.toList = if (cuG [58, 58] s.data.toList).2.2 = false then (match reL true s.data.toList with | some ws => if ws.length = 8 then (ws, true) else (z8, false) | none => (z8, false)) else match reL false (cuG [58, 58] s.data.toList).1, reL true (cuG [58, 58] s.data.toList).2.1 with | some hs, some ts => if hs.length + ts.length < 8 then (hs ++ List.replicate (8 - hs.length - ts.length) 0 ++ ts, true) else (z8, false) | _, _ => (z8, false)) := rfl
  have w1 := reL_le true s.data.toList
  have w2 := reL_le false (cuG [58, 58] s.data.toList).1
  have w3 := reL_le true (cuG [58, 58] s.data.toList).2.1
  generalize reL true s.data.toList = ra at *
  generalize reL false (cuG [58, 58] s.data.toList).1 = rh at *
  generalize reL true (cuG [58, 58] s.data.toList).2.1 = rt at *
  generalize (ByteArray.mk (cuG [58, 58] s.data.toList).1.toArray) = bh at *
  generalize (ByteArray.mk (cuG [58, 58] s.data.toList).2.1.toArray) = bt at *
  generalize (cuG [58, 58] s.data.toList).2.2 = f at *
  generalize v6L s.data.toList = v6 at *
  clear hl eb e58
  have HZ : v6 = (z8, false) → ∀ W, Hid (Ok w.heap.size w W) → ∀ u0 u1 u2 u3 u4 u5 u6 u7, (Ending.returned (.tuple #[.agg (u16v z8).toArray, .bool false]) = Ending.returned (.tuple #[.agg (u16v v6.1).toArray, .bool v6.2])) ∧ Below w.heap.size w ((((((((W.setCell ⟨w.heap.size, 0, none⟩ u0).setCell ⟨w.heap.size, 1, none⟩ u1).setCell ⟨w.heap.size, 2, none⟩ u2).setCell ⟨w.heap.size, 3, none⟩ u3).setCell ⟨w.heap.size, 4, none⟩ u4).setCell ⟨w.heap.size, 5, none⟩ u5).setCell ⟨w.heap.size, 6, none⟩ u6).setCell ⟨w.heap.size, 7, none⟩ u7) := by
    intro h W HO u0 u1 u2 u3 u4 u5 u6 u7
    rw [h]
    refine ⟨rfl, ?_⟩
    iterate 8 refine set_at ?_ _ _
    exact HO.out.1
  have HZ := hid HZ
  have H0 : Hid (Vs w (w.alloc (.cells #[.int .u16 0, .int .u16 0, .int .u16 0, .int .u16 0, .int .u16 0, .int .u16 0, .int .u16 0, .int .u16 0] 27))) := ⟨(Ok.start w).alloc, by simp, Li.new w _ _⟩
  have z9r : (pts []).toArray = #[.int .u16 0, .int .u16 0, .int .u16 0, .int .u16 0, .int .u16 0, .int .u16 0, .int .u16 0, .int .u16 0, .int .i64 0] := rfl
  cases f
  · cases ra with
    | none =>
      have HB := hid (HZ.out HV.out)
      have HRW : Hid (∀ W, Below w.heap.size w W → Calls Tryz.prog 21 #[.string s, .bool true] W fun e w' => e = .returned (.tuple #[.agg #[.int .u16 0, .int .u16 0, .int .u16 0, .int .u16 0, .int .u16 0, .int .u16 0, .int .u16 0, .int .u16 0, .int .i64 0], .bool false]) ∧ Below W.heap.size W w') := HRW
      clear HRH HRT HZ HV w1 w2 w3 z9r
      go_enter Tryz.func8, Tryz.ntmps8
      go_wp2_with fail
      refine (HC.out _ H0.out.ok.1).mono ?_
      rintro e w4 ⟨rfl, hb⟩
      have H0' := hid (H0.out.step hb)
      clear hb H0
      go_wp2_with fail
      refine (HRW.out _ H0'.out.ok.1).mono ?_
      rintro e w5 ⟨rfl, hb⟩
      have H0'' := hid (H0'.out.step hb)
      clear hb H0'
      have H0x := hid (H0''.out.alloc (.cells #[.int .u16 0, .int .u16 0, .int .u16 0, .int .u16 0, .int .u16 0, .int .u16 0, .int .u16 0, .int .u16 0, .int .i64 0] 48))
      go_upto_region 4 with fail
      generalize w5.alloc (.cells #[.int .u16 0, .int .u16 0, .int .u16 0, .int .u16 0, .int .u16 0, .int .u16 0, .int .u16 0, .int .u16 0, .int .i64 0] 48) = w6 at *
      obtain ⟨c0, y0⟩ := H0x.out.zero.at 0 _ rfl
      obtain ⟨c1, y1⟩ := H0x.out.zero.at 1 _ rfl
      obtain ⟨c2, y2⟩ := H0x.out.zero.at 2 _ rfl
      obtain ⟨c3, y3⟩ := H0x.out.zero.at 3 _ rfl
      obtain ⟨c4, y4⟩ := H0x.out.zero.at 4 _ rfl
      obtain ⟨c5, y5⟩ := H0x.out.zero.at 5 _ rfl
      obtain ⟨c6, y6⟩ := H0x.out.zero.at 6 _ rfl
      obtain ⟨c7, y7⟩ := H0x.out.zero.at 7 _ rfl
      go_wp2_with fail
      refine bodyPost_ret (v := .tuple #[.agg #[.int .u16 0, .int .u16 0, .int .u16 0, .int .u16 0, .int .u16 0, .int .u16 0, .int .u16 0, .int .u16 0], .bool false]) (by simp [results, Tryz.results8, go_sem, c0, c1, c2, c3, c4, c5, c6, c7]) rfl (HB.out _ (hid H0x.out.ok) _ _ _ _ _ _ _ _)
    | some ws =>
      have hw8 := w1 ws rfl
      obtain ⟨v0, v1, v2, v3, v4, v5, v6', v7, he, hp⟩ := pts_nine ws hw8
      have HRW : Hid (∀ W, Below w.heap.size w W → Calls Tryz.prog 21 #[.string s, .bool true] W fun e w' => e = .returned (.tuple #[.agg #[.int .u16 v0, .int .u16 v1, .int .u16 v2, .int .u16 v3, .int .u16 v4, .int .u16 v5, .int .u16 v6', .int .u16 v7, .int .i64 (ws.length : Int)], .bool true]) ∧ Below W.heap.size W w') := by
        have h := HRW
        show ∀ W, _
        intro W hW
        have := h.out W hW
        rw [Option.getD_some, hp] at this
        exact this
      by_cases h8 : ws.length = 8
      · have HF : Hid (v6 = (ws, true)) := by show _ = _; rw [HV.out, if_pos rfl]; exact if_pos h8
        have hws := pts_full ws h8 he
        have HR : Hid (Ending.returned (.tuple #[.agg #[.int .u16 v0, .int .u16 v1, .int .u16 v2, .int .u16 v3, .int .u16 v4, .int .u16 v5, .int .u16 v6', .int .u16 v7], .bool true]) = Ending.returned (.tuple #[.agg (u16v v6.1).toArray, .bool v6.2])) := by
          show _ = _; rw [HF.out, hws]; rfl
        rw [h8] at HRW
        clear HRH HRT HZ HV w1 w2 w3 z9r hp he hws
        go_enter Tryz.func8, Tryz.ntmps8
        go_wp2_with fail
        refine (HC.out _ H0.out.ok.1).mono ?_
        rintro e w4 ⟨rfl, hb⟩
        have H0' := hid (H0.out.step hb)
        clear hb H0
        go_wp2_with fail
        refine (HRW.out _ H0'.out.ok.1).mono ?_
        rintro e w5 ⟨rfl, hb⟩
        have H0'' := hid (H0'.out.step hb)
        clear hb H0'
        have HT := hid (Li.new w5 #[.int .u16 v0, .int .u16 v1, .int .u16 v2, .int .u16 v3, .int .u16 v4, .int .u16 v5, .int .u16 v6', .int .u16 v7, .int .i64 8] 48)
        have H0x := hid (H0''.out.alloc (.cells #[.int .u16 v0, .int .u16 v1, .int .u16 v2, .int .u16 v3, .int .u16 v4, .int .u16 v5, .int .u16 v6', .int .u16 v7, .int .i64 8] 48))
        go_upto_region 4 with fail
        generalize w5.alloc (.cells #[.int .u16 v0, .int .u16 v1, .int .u16 v2, .int .u16 v3, .int .u16 v4, .int .u16 v5, .int .u16 v6', .int .u16 v7, .int .i64 8] 48) = w6 at *
        obtain ⟨e0, _⟩ := HT.out.at 0 _ rfl
        obtain ⟨e1, _⟩ := HT.out.at 1 _ rfl
        obtain ⟨e2, _⟩ := HT.out.at 2 _ rfl
        obtain ⟨e3, _⟩ := HT.out.at 3 _ rfl
        obtain ⟨e4, _⟩ := HT.out.at 4 _ rfl
        obtain ⟨e5, _⟩ := HT.out.at 5 _ rfl
        obtain ⟨e6, _⟩ := HT.out.at 6 _ rfl
        obtain ⟨e7, _⟩ := HT.out.at 7 _ rfl
        obtain ⟨e8, _⟩ := HT.out.at 8 _ rfl
        clear HT
        obtain ⟨c0, y0⟩ := H0x.out.zero.at 0 _ rfl
        obtain ⟨c1, y1⟩ := H0x.out.zero.at 1 _ rfl
        obtain ⟨c2, y2⟩ := H0x.out.zero.at 2 _ rfl
        obtain ⟨c3, y3⟩ := H0x.out.zero.at 3 _ rfl
        obtain ⟨c4, y4⟩ := H0x.out.zero.at 4 _ rfl
        obtain ⟨c5, y5⟩ := H0x.out.zero.at 5 _ rfl
        obtain ⟨c6, y6⟩ := H0x.out.zero.at 6 _ rfl
        obtain ⟨c7, y7⟩ := H0x.out.zero.at 7 _ rfl
        go_wp2_with fail
        refine bodyPost_ret (v := .tuple #[.agg #[.int .u16 v0, .int .u16 v1, .int .u16 v2, .int .u16 v3, .int .u16 v4, .int .u16 v5, .int .u16 v6', .int .u16 v7], .bool true]) (by simp [results, Tryz.results8, go_sem, c0, c1, c2, c3, c4, c5, c6, c7]) rfl ⟨HR.out, ?_⟩
        iterate 8 refine set_at ?_ _ _
        exact H0x.out.ok.1
      · have HB := hid (HZ.out (by rw [HV.out, if_pos rfl]; exact if_neg h8))
        have h8' : ((ws.length : Int) != 8) = true := by rw [bne_iff_ne]; omega
        clear HRH HRT HZ HV w1 w2 w3 z9r hp he
        go_enter Tryz.func8, Tryz.ntmps8
        go_wp2_with fail
        refine (HC.out _ H0.out.ok.1).mono ?_
        rintro e w4 ⟨rfl, hb⟩
        have H0' := hid (H0.out.step hb)
        clear hb H0
        go_wp2_with fail
        refine (HRW.out _ H0'.out.ok.1).mono ?_
        rintro e w5 ⟨rfl, hb⟩
        have H0'' := hid (H0'.out.step hb)
        clear hb H0'
        have HT := hid (Li.new w5 #[.int .u16 v0, .int .u16 v1, .int .u16 v2, .int .u16 v3, .int .u16 v4, .int .u16 v5, .int .u16 v6', .int .u16 v7, .int .i64 (ws.length : Int)] 48)
        have H0x := hid (H0''.out.alloc (.cells #[.int .u16 v0, .int .u16 v1, .int .u16 v2, .int .u16 v3, .int .u16 v4, .int .u16 v5, .int .u16 v6', .int .u16 v7, .int .i64 (ws.length : Int)] 48))
        go_upto_region 4 with fail
        generalize w5.alloc (.cells #[.int .u16 v0, .int .u16 v1, .int .u16 v2, .int .u16 v3, .int .u16 v4, .int .u16 v5, .int .u16 v6', .int .u16 v7, .int .i64 (ws.length : Int)] 48) = w6 at *
        obtain ⟨e8, _⟩ := HT.out.at 8 _ rfl
        clear HT
        obtain ⟨c0, y0⟩ := H0x.out.zero.at 0 _ rfl
        obtain ⟨c1, y1⟩ := H0x.out.zero.at 1 _ rfl
        obtain ⟨c2, y2⟩ := H0x.out.zero.at 2 _ rfl
        obtain ⟨c3, y3⟩ := H0x.out.zero.at 3 _ rfl
        obtain ⟨c4, y4⟩ := H0x.out.zero.at 4 _ rfl
        obtain ⟨c5, y5⟩ := H0x.out.zero.at 5 _ rfl
        obtain ⟨c6, y6⟩ := H0x.out.zero.at 6 _ rfl
        obtain ⟨c7, y7⟩ := H0x.out.zero.at 7 _ rfl
        go_wp2_with fail
        refine bodyPost_ret (v := .tuple #[.agg #[.int .u16 0, .int .u16 0, .int .u16 0, .int .u16 0, .int .u16 0, .int .u16 0, .int .u16 0, .int .u16 0], .bool false]) (by simp [results, Tryz.results8, go_sem, c0, c1, c2, c3, c4, c5, c6, c7]) rfl (HB.out _ (hid H0x.out.ok) _ _ _ _ _ _ _ _)
  · cases rh with
    | none =>
      have HB := hid (HZ.out (by rw [HV.out, if_neg (by decide)]))
      have HRH : Hid (∀ W, Below w.heap.size w W → Calls Tryz.prog 21 #[.string bh, .bool false] W fun e w' => e = .returned (.tuple #[.agg #[.int .u16 0, .int .u16 0, .int .u16 0, .int .u16 0, .int .u16 0, .int .u16 0, .int .u16 0, .int .u16 0, .int .i64 0], .bool false]) ∧ Below W.heap.size W w') := HRH
      clear HRW HRT HZ HV w1 w2 w3 z9r
      go_enter Tryz.func8, Tryz.ntmps8
      go_wp2_with fail
      refine (HC.out _ H0.out.ok.1).mono ?_
      rintro e w4 ⟨rfl, hb⟩
      have H1 := hid (H0.out.step hb)
      go_wp2_with fail
      refine (HRH.out _ H1.out.ok.1).mono ?_
      rintro e w5 ⟨rfl, hb⟩
      have H2 := hid (H1.out.step hb)
      clear hb
      have H3 := hid (H2.out.alloc (.cells #[.int .u16 0, .int .u16 0, .int .u16 0, .int .u16 0, .int .u16 0, .int .u16 0, .int .u16 0, .int .u16 0, .int .i64 0] 48))
      go_upto_region 8 with fail
      generalize w5.alloc (.cells #[.int .u16 0, .int .u16 0, .int .u16 0, .int .u16 0, .int .u16 0, .int .u16 0, .int .u16 0, .int .u16 0, .int .i64 0] 48) = w6 at *
      obtain ⟨c0, y0⟩ := H3.out.zero.at 0 _ rfl
      obtain ⟨c1, y1⟩ := H3.out.zero.at 1 _ rfl
      obtain ⟨c2, y2⟩ := H3.out.zero.at 2 _ rfl
      obtain ⟨c3, y3⟩ := H3.out.zero.at 3 _ rfl
      obtain ⟨c4, y4⟩ := H3.out.zero.at 4 _ rfl
      obtain ⟨c5, y5⟩ := H3.out.zero.at 5 _ rfl
      obtain ⟨c6, y6⟩ := H3.out.zero.at 6 _ rfl
      obtain ⟨c7, y7⟩ := H3.out.zero.at 7 _ rfl
      go_wp2_with fail
      refine bodyPost_ret (v := .tuple #[.agg #[.int .u16 0, .int .u16 0, .int .u16 0, .int .u16 0, .int .u16 0, .int .u16 0, .int .u16 0, .int .u16 0], .bool false]) (by simp [results, Tryz.results8, go_sem, c0, c1, c2, c3, c4, c5, c6, c7]) rfl (HB.out _ (hid H3.out.ok) _ _ _ _ _ _ _ _)
    | some hs =>
      have hh8 := w2 hs rfl
      obtain ⟨h0, h1, h2, h3, h4, h5, h6, h7, hhe, hhp⟩ := pts_nine hs hh8
      have HRH : Hid (∀ W, Below w.heap.size w W → Calls Tryz.prog 21 #[.string bh, .bool false] W fun e w' => e = .returned (.tuple #[.agg #[.int .u16 h0, .int .u16 h1, .int .u16 h2, .int .u16 h3, .int .u16 h4, .int .u16 h5, .int .u16 h6, .int .u16 h7, .int .i64 (hs.length : Int)], .bool true]) ∧ Below W.heap.size W w') := by
        show ∀ W, _
        intro W hW
        have := HRH.out W hW
        rw [Option.getD_some, hhp] at this
        exact this
      cases rt with
      | none =>
        have HB := hid (HZ.out (by rw [HV.out, if_neg (by decide)]))
        have HRT : Hid (∀ W, Below w.heap.size w W → Calls Tryz.prog 21 #[.string bt, .bool true] W fun e w' => e = .returned (.tuple #[.agg #[.int .u16 0, .int .u16 0, .int .u16 0, .int .u16 0, .int .u16 0, .int .u16 0, .int .u16 0, .int .u16 0, .int .i64 0], .bool false]) ∧ Below W.heap.size W w') := HRT
        clear HRW HZ HV w1 w2 w3 z9r hhp hhe
        go_enter Tryz.func8, Tryz.ntmps8
        go_wp2_with fail
        refine (HC.out _ H0.out.ok.1).mono ?_
        rintro e w4 ⟨rfl, hb⟩
        have H1 := hid (H0.out.step hb)
        go_wp2_with fail
        refine (HRH.out _ H1.out.ok.1).mono ?_
        rintro e w5 ⟨rfl, hb⟩
        have H2 := hid (H1.out.step hb)
        clear hb
        have H3 := hid (H2.out.alloc (.cells #[.int .u16 h0, .int .u16 h1, .int .u16 h2, .int .u16 h3, .int .u16 h4, .int .u16 h5, .int .u16 h6, .int .u16 h7, .int .i64 (hs.length : Int)] 48))
        go_upto_region 8 with fail
        generalize w5.alloc (.cells #[.int .u16 h0, .int .u16 h1, .int .u16 h2, .int .u16 h3, .int .u16 h4, .int .u16 h5, .int .u16 h6, .int .u16 h7, .int .i64 (hs.length : Int)] 48) = w6 at *
        go_wp2_with fail
        refine (HRT.out _ H3.out.ok.1).mono ?_
        rintro e w7 ⟨rfl, hb⟩
        have H4 := hid (H3.out.step hb)
        clear hb
        have H5 := hid (H4.out.alloc (.cells #[.int .u16 0, .int .u16 0, .int .u16 0, .int .u16 0, .int .u16 0, .int .u16 0, .int .u16 0, .int .u16 0, .int .i64 0] 48))
        go_upto_region 11 with fail
        generalize w7.alloc (.cells #[.int .u16 0, .int .u16 0, .int .u16 0, .int .u16 0, .int .u16 0, .int .u16 0, .int .u16 0, .int .u16 0, .int .i64 0] 48) = w8 at *
        obtain ⟨c0, y0⟩ := H5.out.zero.at 0 _ rfl
        obtain ⟨c1, y1⟩ := H5.out.zero.at 1 _ rfl
        obtain ⟨c2, y2⟩ := H5.out.zero.at 2 _ rfl
        obtain ⟨c3, y3⟩ := H5.out.zero.at 3 _ rfl
        obtain ⟨c4, y4⟩ := H5.out.zero.at 4 _ rfl
        obtain ⟨c5, y5⟩ := H5.out.zero.at 5 _ rfl
        obtain ⟨c6, y6⟩ := H5.out.zero.at 6 _ rfl
        obtain ⟨c7, y7⟩ := H5.out.zero.at 7 _ rfl
        go_wp2_with fail
        refine bodyPost_ret (v := .tuple #[.agg #[.int .u16 0, .int .u16 0, .int .u16 0, .int .u16 0, .int .u16 0, .int .u16 0, .int .u16 0, .int .u16 0], .bool false]) (by simp [results, Tryz.results8, go_sem, c0, c1, c2, c3, c4, c5, c6, c7]) rfl (HB.out _ (hid H5.out.ok) _ _ _ _ _ _ _ _)
      | some ts =>
        have ht8 := w3 ts rfl
        obtain ⟨t0, t1, t2, t3, t4, t5, t6, t7, hte, htp⟩ := pts_nine ts ht8
        have HRT : Hid (∀ W, Below w.heap.size w W → Calls Tryz.prog 21 #[.string bt, .bool true] W fun e w' => e = .returned (.tuple #[.agg #[.int .u16 t0, .int .u16 t1, .int .u16 t2, .int .u16 t3, .int .u16 t4, .int .u16 t5, .int .u16 t6, .int .u16 t7, .int .i64 (ts.length : Int)], .bool true]) ∧ Below W.heap.size W w') := by
          show ∀ W, _
          intro W hW
          have := HRT.out W hW
          rw [Option.getD_some, htp] at this
          exact this
        by_cases hlt : hs.length + ts.length < 8
        · have HF : Hid (v6 = (hs ++ List.replicate (8 - hs.length - ts.length) 0 ++ ts, true)) := by
            show _ = _; rw [HV.out, if_neg (by decide)]; exact if_pos hlt
          have hlt' : ¬ (8 : Int) ≤ (hs.length : Int) + (ts.length : Int) := by omega
          clear HRW HZ HV w1 w2 w3 z9r hhp htp
          go_enter Tryz.func8, Tryz.ntmps8
          go_wp2_with fail
          refine (HC.out _ H0.out.ok.1).mono ?_
          rintro e w4 ⟨rfl, hb⟩
          have H1 := hid (H0.out.step hb)
          go_wp2_with fail
          refine (HRH.out _ H1.out.ok.1).mono ?_
          rintro e w5 ⟨rfl, hb⟩
          have H2 := hid (H1.out.step hb)
          clear hb
          have HTa := hid (Li.new w5 #[.int .u16 h0, .int .u16 h1, .int .u16 h2, .int .u16 h3, .int .u16 h4, .int .u16 h5, .int .u16 h6, .int .u16 h7, .int .i64 (hs.length : Int)] 48)
          have H3 := hid (H2.out.alloc (.cells #[.int .u16 h0, .int .u16 h1, .int .u16 h2, .int .u16 h3, .int .u16 h4, .int .u16 h5, .int .u16 h6, .int .u16 h7, .int .i64 (hs.length : Int)] 48))
          have S3 : Hid (w5.heap.size < (w5.alloc (.cells #[.int .u16 h0, .int .u16 h1, .int .u16 h2, .int .u16 h3, .int .u16 h4, .int .u16 h5, .int .u16 h6, .int .u16 h7, .int .i64 (hs.length : Int)] 48)).heap.size) := by show _ < _; simp
          go_upto_region 8 with fail
          generalize w5.alloc (.cells #[.int .u16 h0, .int .u16 h1, .int .u16 h2, .int .u16 h3, .int .u16 h4, .int .u16 h5, .int .u16 h6, .int .u16 h7, .int .i64 (hs.length : Int)] 48) = w6 at *
          go_wp2_with fail
          refine (HRT.out _ H3.out.ok.1).mono ?_
          rintro e w7 ⟨rfl, hb⟩
          have H4 := hid (H3.out.step hb)
          have HTa' := hid ((HTa.out.step hb S3.out).step ((Below.refl _ _).alloc (Nat.le_refl _) (.cells #[.int .u16 t0, .int .u16 t1, .int .u16 t2, .int .u16 t3, .int .u16 t4, .int .u16 t5, .int .u16 t6, .int .u16 t7, .int .i64 (ts.length : Int)] 48)) (by have := S3.out; have := hb.size; omega))
          have HTb := hid (Li.new w7 #[.int .u16 t0, .int .u16 t1, .int .u16 t2, .int .u16 t3, .int .u16 t4, .int .u16 t5, .int .u16 t6, .int .u16 t7, .int .i64 (ts.length : Int)] 48)
          have S5 : Hid (w5.heap.size < w7.heap.size ∧ w7.heap.size < (w7.alloc (.cells #[.int .u16 t0, .int .u16 t1, .int .u16 t2, .int .u16 t3, .int .u16 t4, .int .u16 t5, .int .u16 t6, .int .u16 t7, .int .i64 (ts.length : Int)] 48)).heap.size) := ⟨by have := S3.out; have := hb.size; omega, by simp⟩
          clear hb HTa S3
          have H5 := hid (H4.out.alloc (.cells #[.int .u16 t0, .int .u16 t1, .int .u16 t2, .int .u16 t3, .int .u16 t4, .int .u16 t5, .int .u16 t6, .int .u16 t7, .int .i64 (ts.length : Int)] 48))
          go_upto_region 11 with fail
          generalize w7.alloc (.cells #[.int .u16 t0, .int .u16 t1, .int .u16 t2, .int .u16 t3, .int .u16 t4, .int .u16 t5, .int .u16 t6, .int .u16 t7, .int .i64 (ts.length : Int)] 48) = w8 at *
          obtain ⟨ea0, _⟩ := HTa'.out.at 0 _ rfl
          obtain ⟨ea1, _⟩ := HTa'.out.at 1 _ rfl
          obtain ⟨ea2, _⟩ := HTa'.out.at 2 _ rfl
          obtain ⟨ea3, _⟩ := HTa'.out.at 3 _ rfl
          obtain ⟨ea4, _⟩ := HTa'.out.at 4 _ rfl
          obtain ⟨ea5, _⟩ := HTa'.out.at 5 _ rfl
          obtain ⟨ea6, _⟩ := HTa'.out.at 6 _ rfl
          obtain ⟨ea7, _⟩ := HTa'.out.at 7 _ rfl
          obtain ⟨ea8, _⟩ := HTa'.out.at 8 _ rfl
          obtain ⟨eb0, fb0⟩ := HTb.out.at 0 _ rfl
          obtain ⟨eb1, fb1⟩ := HTb.out.at 1 _ rfl
          obtain ⟨eb2, fb2⟩ := HTb.out.at 2 _ rfl
          obtain ⟨eb3, fb3⟩ := HTb.out.at 3 _ rfl
          obtain ⟨eb4, fb4⟩ := HTb.out.at 4 _ rfl
          obtain ⟨eb5, fb5⟩ := HTb.out.at 5 _ rfl
          obtain ⟨eb6, fb6⟩ := HTb.out.at 6 _ rfl
          obtain ⟨eb7, fb7⟩ := HTb.out.at 7 _ rfl
          obtain ⟨eb8, fb8⟩ := HTb.out.at 8 _ rfl
          go_upto_region 14 with fail
          have H6 := hid (H5.out.alloc (.cells #[.int .u16 h0, .int .u16 h1, .int .u16 h2, .int .u16 h3, .int .u16 h4, .int .u16 h5, .int .u16 h6, .int .u16 h7] 27))
          have L12 := hid (Li.new w8 #[.int .u16 h0, .int .u16 h1, .int .u16 h2, .int .u16 h3, .int .u16 h4, .int .u16 h5, .int .u16 h6, .int .u16 h7] 27)
          have HTc := hid (HTb.out.step ((Below.refl _ _).alloc (Nat.le_refl w8.heap.size) (.cells #[.int .u16 h0, .int .u16 h1, .int .u16 h2, .int .u16 h3, .int .u16 h4, .int .u16 h5, .int .u16 h6, .int .u16 h7] 27)) (by have := S5.out.2; omega))
          have HG12 : Hid ((w8.alloc (.cells #[.int .u16 h0, .int .u16 h1, .int .u16 h2, .int .u16 h3, .int .u16 h4, .int .u16 h5, .int .u16 h6, .int .u16 h7] 27)).drew.heap[w8.heap.size]? = some (.cells ([.int .u16 h0, .int .u16 h1, .int .u16 h2, .int .u16 h3, .int .u16 h4, .int .u16 h5, .int .u16 h6, .int .u16 h7] : List Value).toArray 27 (0, 0))) := by
            show (w8.heap.push _)[w8.heap.size]? = _
            rw [Array.getElem?_push, if_pos rfl]
          have S6 : Hid (w.heap.size < w8.heap.size ∧ w7.heap.size < w8.heap.size) := ⟨by have := H5.out.sz; omega, S5.out.2⟩
          clear ea0 eb0 fb0 ea1 eb1 fb1 ea2 eb2 fb2 ea3 eb3 fb3 ea4 eb4 fb4 ea5 eb5 fb5 ea6 eb6 fb6 ea7 eb7 fb7 ea8 eb8 fb8 HTb S5 HTa'
          generalize w8.alloc (.cells #[.int .u16 h0, .int .u16 h1, .int .u16 h2, .int .u16 h3, .int .u16 h4, .int .u16 h5, .int .u16 h6, .int .u16 h7] 27) = w9 at *
          obtain ⟨eb0, fb0⟩ := HTc.out.at 0 _ rfl
          obtain ⟨eb1, fb1⟩ := HTc.out.at 1 _ rfl
          obtain ⟨eb2, fb2⟩ := HTc.out.at 2 _ rfl
          obtain ⟨eb3, fb3⟩ := HTc.out.at 3 _ rfl
          obtain ⟨eb4, fb4⟩ := HTc.out.at 4 _ rfl
          obtain ⟨eb5, fb5⟩ := HTc.out.at 5 _ rfl
          obtain ⟨eb6, fb6⟩ := HTc.out.at 6 _ rfl
          obtain ⟨eb7, fb7⟩ := HTc.out.at 7 _ rfl
          obtain ⟨eb8, fb8⟩ := HTc.out.at 8 _ rfl
          obtain ⟨el0, fl0⟩ := L12.out.at 0 _ rfl
          obtain ⟨el1, fl1⟩ := L12.out.at 1 _ rfl
          obtain ⟨el2, fl2⟩ := L12.out.at 2 _ rfl
          obtain ⟨el3, fl3⟩ := L12.out.at 3 _ rfl
          obtain ⟨el4, fl4⟩ := L12.out.at 4 _ rfl
          obtain ⟨el5, fl5⟩ := L12.out.at 5 _ rfl
          obtain ⟨el6, fl6⟩ := L12.out.at 6 _ rfl
          obtain ⟨el7, fl7⟩ := L12.out.at 7 _ rfl
          have hn : ts.length = 0 ∨ ts.length = 1 ∨ ts.length = 2 ∨ ts.length = 3 ∨ ts.length = 4 ∨ ts.length = 5 ∨ ts.length = 6 ∨ ts.length = 7 := by omega
          have HFL := hid (fin_list hs ts hhe hte hlt)
          rcases hn with hn | hn | hn | hn | hn | hn | hn | hn
          · have eb8' : w9.cell? ⟨w7.heap.size, 8, none⟩ = some (.int .i64 0) := by rw [eb8, hn]; rfl
            have hwr : IntKind.i64.wrap 8 = 8 := by decide
            have HR : Hid (Ending.returned (.tuple #[.agg #[.int .u16 h0, .int .u16 h1, .int .u16 h2, .int .u16 h3, .int .u16 h4, .int .u16 h5, .int .u16 h6, .int .u16 h7], .bool true]) = Ending.returned (.tuple #[.agg (u16v v6.1).toArray, .bool v6.2])) := by
              show _ = _; rw [HF.out, HFL.out, hn]; rfl
            have HCP := hid (fun j v h => HTc.out.pre [] rfl j v h)
            have HON : Hid (∀ v ∈ ([] : List Value), v.oneCell' = true) := fun v hv => one_u16 (l := []) hv
            have HB9 : Hid (Below w8.heap.size w9 w9.drew) := (Below.refl _ _).drew
            clear eb8 HF HFL hn
            go_region_law (refine step_copy_splice rfl (.tmp 65) (.tmp 69) 51 51 rfl 26 Tryz.underlying51 info_u16 (some ⟨w8.heap.size, 0, none⟩) (some ⟨w7.heap.size, 0, none⟩) 0 0 0 8 (by simp [Act.eval, Act.put]) (by simp [Act.eval, Act.put]) w8.heap.size 8 [.int .u16 h0, .int .u16 h1, .int .u16 h2, .int .u16 h3, .int .u16 h4, .int .u16 h5, .int .u16 h6, .int .u16 h7] 27 HG12.out [] rfl (fun hp => absurd hp (by decide)) (Nat.le_refl _) HON.out w8.heap.size w9 HB9.out (Nat.le_refl _) (fun w10 hw10 hb10 => ?_); have H7 := hid (H6.out.far hb10 S6.out.1); have hw11 : w10.heap[w8.heap.size]? = some (.cells ([.int .u16 h0, .int .u16 h1, .int .u16 h2, .int .u16 h3, .int .u16 h4, .int .u16 h5, .int .u16 h6, .int .u16 h7] : List Value).toArray 27 (0, 0)) := hw10.out; obtain ⟨g0, g1, g2, g3, g4, g5, g6, g7⟩ := row8 hw11; clear hw11; clear hw10 hb10 H6; obtain ⟨c0, y0⟩ := H7.out.zero.at 0 _ rfl; obtain ⟨c1, y1⟩ := H7.out.zero.at 1 _ rfl; obtain ⟨c2, y2⟩ := H7.out.zero.at 2 _ rfl; obtain ⟨c3, y3⟩ := H7.out.zero.at 3 _ rfl; obtain ⟨c4, y4⟩ := H7.out.zero.at 4 _ rfl; obtain ⟨c5, y5⟩ := H7.out.zero.at 5 _ rfl; obtain ⟨c6, y6⟩ := H7.out.zero.at 6 _ rfl; obtain ⟨c7, y7⟩ := H7.out.zero.at 7 _ rfl)
            all_goals
              go_wp2_with fail
              refine bodyPost_ret (v := .tuple #[.agg #[.int .u16 h0, .int .u16 h1, .int .u16 h2, .int .u16 h3, .int .u16 h4, .int .u16 h5, .int .u16 h6, .int .u16 h7], .bool true]) (by simp [results, Tryz.results8, go_sem, c0, c1, c2, c3, c4, c5, c6, c7]) rfl ⟨HR.out, ?_⟩
              iterate 8 refine set_at ?_ _ _
              exact H7.out.ok.1
          · have eb8' : w9.cell? ⟨w7.heap.size, 8, none⟩ = some (.int .i64 1) := by rw [eb8, hn]; rfl
            have hwr : IntKind.i64.wrap 7 = 7 := by decide
            have HR : Hid (Ending.returned (.tuple #[.agg #[.int .u16 h0, .int .u16 h1, .int .u16 h2, .int .u16 h3, .int .u16 h4, .int .u16 h5, .int .u16 h6, .int .u16 t0], .bool true]) = Ending.returned (.tuple #[.agg (u16v v6.1).toArray, .bool v6.2])) := by
              show _ = _; rw [HF.out, HFL.out, hn]; rfl
            have HCP := hid (fun j v h => HTc.out.pre [.int .u16 t0] rfl j v h)
            have HON : Hid (∀ v ∈ ([.int .u16 t0] : List Value), v.oneCell' = true) := fun v hv => one_u16 (l := [t0]) hv
            have HB9 : Hid (Below w8.heap.size w9 w9.drew) := (Below.refl _ _).drew
            clear eb8 HF HFL hn
            go_region_law (refine step_copy_splice rfl (.tmp 65) (.tmp 69) 51 51 rfl 26 Tryz.underlying51 info_u16 (some ⟨w8.heap.size, 7, none⟩) (some ⟨w7.heap.size, 0, none⟩) 1 1 1 8 (by simp [Act.eval, Act.put]) (by simp [Act.eval, Act.put]) w8.heap.size 7 [.int .u16 h0, .int .u16 h1, .int .u16 h2, .int .u16 h3, .int .u16 h4, .int .u16 h5, .int .u16 h6, .int .u16 h7] 27 HG12.out [.int .u16 t0] rfl (fun hp => ⟨rfl, _, rfl, HCP.out⟩) (Nat.le_refl _) HON.out w8.heap.size w9 HB9.out (Nat.le_refl _) (fun w10 hw10 hb10 => ?_); have H7 := hid (H6.out.far hb10 S6.out.1); have hw11 : w10.heap[w8.heap.size]? = some (.cells ([.int .u16 h0, .int .u16 h1, .int .u16 h2, .int .u16 h3, .int .u16 h4, .int .u16 h5, .int .u16 h6, .int .u16 t0] : List Value).toArray 27 (0, 0)) := hw10.out; obtain ⟨g0, g1, g2, g3, g4, g5, g6, g7⟩ := row8 hw11; clear hw11; clear hw10 hb10 H6; obtain ⟨c0, y0⟩ := H7.out.zero.at 0 _ rfl; obtain ⟨c1, y1⟩ := H7.out.zero.at 1 _ rfl; obtain ⟨c2, y2⟩ := H7.out.zero.at 2 _ rfl; obtain ⟨c3, y3⟩ := H7.out.zero.at 3 _ rfl; obtain ⟨c4, y4⟩ := H7.out.zero.at 4 _ rfl; obtain ⟨c5, y5⟩ := H7.out.zero.at 5 _ rfl; obtain ⟨c6, y6⟩ := H7.out.zero.at 6 _ rfl; obtain ⟨c7, y7⟩ := H7.out.zero.at 7 _ rfl)
            all_goals
              go_wp2_with fail
              refine bodyPost_ret (v := .tuple #[.agg #[.int .u16 h0, .int .u16 h1, .int .u16 h2, .int .u16 h3, .int .u16 h4, .int .u16 h5, .int .u16 h6, .int .u16 t0], .bool true]) (by simp [results, Tryz.results8, go_sem, c0, c1, c2, c3, c4, c5, c6, c7]) rfl ⟨HR.out, ?_⟩
              iterate 8 refine set_at ?_ _ _
              exact H7.out.ok.1
          · have eb8' : w9.cell? ⟨w7.heap.size, 8, none⟩ = some (.int .i64 2) := by rw [eb8, hn]; rfl
            have hwr : IntKind.i64.wrap 6 = 6 := by decide
            have HR : Hid (Ending.returned (.tuple #[.agg #[.int .u16 h0, .int .u16 h1, .int .u16 h2, .int .u16 h3, .int .u16 h4, .int .u16 h5, .int .u16 t0, .int .u16 t1], .bool true]) = Ending.returned (.tuple #[.agg (u16v v6.1).toArray, .bool v6.2])) := by
              show _ = _; rw [HF.out, HFL.out, hn]; rfl
            have HCP := hid (fun j v h => HTc.out.pre [.int .u16 t0, .int .u16 t1] rfl j v h)
            have HON : Hid (∀ v ∈ ([.int .u16 t0, .int .u16 t1] : List Value), v.oneCell' = true) := fun v hv => one_u16 (l := [t0, t1]) hv
            have HB9 : Hid (Below w8.heap.size w9 w9.drew) := (Below.refl _ _).drew
            clear eb8 HF HFL hn
            go_region_law (refine step_copy_splice rfl (.tmp 65) (.tmp 69) 51 51 rfl 26 Tryz.underlying51 info_u16 (some ⟨w8.heap.size, 6, none⟩) (some ⟨w7.heap.size, 0, none⟩) 2 2 2 8 (by simp [Act.eval, Act.put]) (by simp [Act.eval, Act.put]) w8.heap.size 6 [.int .u16 h0, .int .u16 h1, .int .u16 h2, .int .u16 h3, .int .u16 h4, .int .u16 h5, .int .u16 h6, .int .u16 h7] 27 HG12.out [.int .u16 t0, .int .u16 t1] rfl (fun hp => ⟨rfl, _, rfl, HCP.out⟩) (Nat.le_refl _) HON.out w8.heap.size w9 HB9.out (Nat.le_refl _) (fun w10 hw10 hb10 => ?_); have H7 := hid (H6.out.far hb10 S6.out.1); have hw11 : w10.heap[w8.heap.size]? = some (.cells ([.int .u16 h0, .int .u16 h1, .int .u16 h2, .int .u16 h3, .int .u16 h4, .int .u16 h5, .int .u16 t0, .int .u16 t1] : List Value).toArray 27 (0, 0)) := hw10.out; obtain ⟨g0, g1, g2, g3, g4, g5, g6, g7⟩ := row8 hw11; clear hw11; clear hw10 hb10 H6; obtain ⟨c0, y0⟩ := H7.out.zero.at 0 _ rfl; obtain ⟨c1, y1⟩ := H7.out.zero.at 1 _ rfl; obtain ⟨c2, y2⟩ := H7.out.zero.at 2 _ rfl; obtain ⟨c3, y3⟩ := H7.out.zero.at 3 _ rfl; obtain ⟨c4, y4⟩ := H7.out.zero.at 4 _ rfl; obtain ⟨c5, y5⟩ := H7.out.zero.at 5 _ rfl; obtain ⟨c6, y6⟩ := H7.out.zero.at 6 _ rfl; obtain ⟨c7, y7⟩ := H7.out.zero.at 7 _ rfl)
            all_goals
              go_wp2_with fail
              refine bodyPost_ret (v := .tuple #[.agg #[.int .u16 h0, .int .u16 h1, .int .u16 h2, .int .u16 h3, .int .u16 h4, .int .u16 h5, .int .u16 t0, .int .u16 t1], .bool true]) (by simp [results, Tryz.results8, go_sem, c0, c1, c2, c3, c4, c5, c6, c7]) rfl ⟨HR.out, ?_⟩
              iterate 8 refine set_at ?_ _ _
              exact H7.out.ok.1
          · have eb8' : w9.cell? ⟨w7.heap.size, 8, none⟩ = some (.int .i64 3) := by rw [eb8, hn]; rfl
            have hwr : IntKind.i64.wrap 5 = 5 := by decide
            have HR : Hid (Ending.returned (.tuple #[.agg #[.int .u16 h0, .int .u16 h1, .int .u16 h2, .int .u16 h3, .int .u16 h4, .int .u16 t0, .int .u16 t1, .int .u16 t2], .bool true]) = Ending.returned (.tuple #[.agg (u16v v6.1).toArray, .bool v6.2])) := by
              show _ = _; rw [HF.out, HFL.out, hn]; rfl
            have HCP := hid (fun j v h => HTc.out.pre [.int .u16 t0, .int .u16 t1, .int .u16 t2] rfl j v h)
            have HON : Hid (∀ v ∈ ([.int .u16 t0, .int .u16 t1, .int .u16 t2] : List Value), v.oneCell' = true) := fun v hv => one_u16 (l := [t0, t1, t2]) hv
            have HB9 : Hid (Below w8.heap.size w9 w9.drew) := (Below.refl _ _).drew
            clear eb8 HF HFL hn
            go_region_law (refine step_copy_splice rfl (.tmp 65) (.tmp 69) 51 51 rfl 26 Tryz.underlying51 info_u16 (some ⟨w8.heap.size, 5, none⟩) (some ⟨w7.heap.size, 0, none⟩) 3 3 3 8 (by simp [Act.eval, Act.put]) (by simp [Act.eval, Act.put]) w8.heap.size 5 [.int .u16 h0, .int .u16 h1, .int .u16 h2, .int .u16 h3, .int .u16 h4, .int .u16 h5, .int .u16 h6, .int .u16 h7] 27 HG12.out [.int .u16 t0, .int .u16 t1, .int .u16 t2] rfl (fun hp => ⟨rfl, _, rfl, HCP.out⟩) (Nat.le_refl _) HON.out w8.heap.size w9 HB9.out (Nat.le_refl _) (fun w10 hw10 hb10 => ?_); have H7 := hid (H6.out.far hb10 S6.out.1); have hw11 : w10.heap[w8.heap.size]? = some (.cells ([.int .u16 h0, .int .u16 h1, .int .u16 h2, .int .u16 h3, .int .u16 h4, .int .u16 t0, .int .u16 t1, .int .u16 t2] : List Value).toArray 27 (0, 0)) := hw10.out; obtain ⟨g0, g1, g2, g3, g4, g5, g6, g7⟩ := row8 hw11; clear hw11; clear hw10 hb10 H6; obtain ⟨c0, y0⟩ := H7.out.zero.at 0 _ rfl; obtain ⟨c1, y1⟩ := H7.out.zero.at 1 _ rfl; obtain ⟨c2, y2⟩ := H7.out.zero.at 2 _ rfl; obtain ⟨c3, y3⟩ := H7.out.zero.at 3 _ rfl; obtain ⟨c4, y4⟩ := H7.out.zero.at 4 _ rfl; obtain ⟨c5, y5⟩ := H7.out.zero.at 5 _ rfl; obtain ⟨c6, y6⟩ := H7.out.zero.at 6 _ rfl; obtain ⟨c7, y7⟩ := H7.out.zero.at 7 _ rfl)
            all_goals
              go_wp2_with fail
              refine bodyPost_ret (v := .tuple #[.agg #[.int .u16 h0, .int .u16 h1, .int .u16 h2, .int .u16 h3, .int .u16 h4, .int .u16 t0, .int .u16 t1, .int .u16 t2], .bool true]) (by simp [results, Tryz.results8, go_sem, c0, c1, c2, c3, c4, c5, c6, c7]) rfl ⟨HR.out, ?_⟩
              iterate 8 refine set_at ?_ _ _
              exact H7.out.ok.1
          · have eb8' : w9.cell? ⟨w7.heap.size, 8, none⟩ = some (.int .i64 4) := by rw [eb8, hn]; rfl
            have hwr : IntKind.i64.wrap 4 = 4 := by decide
            have HR : Hid (Ending.returned (.tuple #[.agg #[.int .u16 h0, .int .u16 h1, .int .u16 h2, .int .u16 h3, .int .u16 t0, .int .u16 t1, .int .u16 t2, .int .u16 t3], .bool true]) = Ending.returned (.tuple #[.agg (u16v v6.1).toArray, .bool v6.2])) := by
              show _ = _; rw [HF.out, HFL.out, hn]; rfl
            have HCP := hid (fun j v h => HTc.out.pre [.int .u16 t0, .int .u16 t1, .int .u16 t2, .int .u16 t3] rfl j v h)
            have HON : Hid (∀ v ∈ ([.int .u16 t0, .int .u16 t1, .int .u16 t2, .int .u16 t3] : List Value), v.oneCell' = true) := fun v hv => one_u16 (l := [t0, t1, t2, t3]) hv
            have HB9 : Hid (Below w8.heap.size w9 w9.drew) := (Below.refl _ _).drew
            clear eb8 HF HFL hn
            go_region_law (refine step_copy_splice rfl (.tmp 65) (.tmp 69) 51 51 rfl 26 Tryz.underlying51 info_u16 (some ⟨w8.heap.size, 4, none⟩) (some ⟨w7.heap.size, 0, none⟩) 4 4 4 8 (by simp [Act.eval, Act.put]) (by simp [Act.eval, Act.put]) w8.heap.size 4 [.int .u16 h0, .int .u16 h1, .int .u16 h2, .int .u16 h3, .int .u16 h4, .int .u16 h5, .int .u16 h6, .int .u16 h7] 27 HG12.out [.int .u16 t0, .int .u16 t1, .int .u16 t2, .int .u16 t3] rfl (fun hp => ⟨rfl, _, rfl, HCP.out⟩) (Nat.le_refl _) HON.out w8.heap.size w9 HB9.out (Nat.le_refl _) (fun w10 hw10 hb10 => ?_); have H7 := hid (H6.out.far hb10 S6.out.1); have hw11 : w10.heap[w8.heap.size]? = some (.cells ([.int .u16 h0, .int .u16 h1, .int .u16 h2, .int .u16 h3, .int .u16 t0, .int .u16 t1, .int .u16 t2, .int .u16 t3] : List Value).toArray 27 (0, 0)) := hw10.out; obtain ⟨g0, g1, g2, g3, g4, g5, g6, g7⟩ := row8 hw11; clear hw11; clear hw10 hb10 H6; obtain ⟨c0, y0⟩ := H7.out.zero.at 0 _ rfl; obtain ⟨c1, y1⟩ := H7.out.zero.at 1 _ rfl; obtain ⟨c2, y2⟩ := H7.out.zero.at 2 _ rfl; obtain ⟨c3, y3⟩ := H7.out.zero.at 3 _ rfl; obtain ⟨c4, y4⟩ := H7.out.zero.at 4 _ rfl; obtain ⟨c5, y5⟩ := H7.out.zero.at 5 _ rfl; obtain ⟨c6, y6⟩ := H7.out.zero.at 6 _ rfl; obtain ⟨c7, y7⟩ := H7.out.zero.at 7 _ rfl)
            all_goals
              go_wp2_with fail
              refine bodyPost_ret (v := .tuple #[.agg #[.int .u16 h0, .int .u16 h1, .int .u16 h2, .int .u16 h3, .int .u16 t0, .int .u16 t1, .int .u16 t2, .int .u16 t3], .bool true]) (by simp [results, Tryz.results8, go_sem, c0, c1, c2, c3, c4, c5, c6, c7]) rfl ⟨HR.out, ?_⟩
              iterate 8 refine set_at ?_ _ _
              exact H7.out.ok.1
          · have eb8' : w9.cell? ⟨w7.heap.size, 8, none⟩ = some (.int .i64 5) := by rw [eb8, hn]; rfl
            have hwr : IntKind.i64.wrap 3 = 3 := by decide
            have HR : Hid (Ending.returned (.tuple #[.agg #[.int .u16 h0, .int .u16 h1, .int .u16 h2, .int .u16 t0, .int .u16 t1, .int .u16 t2, .int .u16 t3, .int .u16 t4], .bool true]) = Ending.returned (.tuple #[.agg (u16v v6.1).toArray, .bool v6.2])) := by
              show _ = _; rw [HF.out, HFL.out, hn]; rfl
            have HCP := hid (fun j v h => HTc.out.pre [.int .u16 t0, .int .u16 t1, .int .u16 t2, .int .u16 t3, .int .u16 t4] rfl j v h)
            have HON : Hid (∀ v ∈ ([.int .u16 t0, .int .u16 t1, .int .u16 t2, .int .u16 t3, .int .u16 t4] : List Value), v.oneCell' = true) := fun v hv => one_u16 (l := [t0, t1, t2, t3, t4]) hv
            have HB9 : Hid (Below w8.heap.size w9 w9.drew) := (Below.refl _ _).drew
            clear eb8 HF HFL hn
            go_region_law (refine step_copy_splice rfl (.tmp 65) (.tmp 69) 51 51 rfl 26 Tryz.underlying51 info_u16 (some ⟨w8.heap.size, 3, none⟩) (some ⟨w7.heap.size, 0, none⟩) 5 5 5 8 (by simp [Act.eval, Act.put]) (by simp [Act.eval, Act.put]) w8.heap.size 3 [.int .u16 h0, .int .u16 h1, .int .u16 h2, .int .u16 h3, .int .u16 h4, .int .u16 h5, .int .u16 h6, .int .u16 h7] 27 HG12.out [.int .u16 t0, .int .u16 t1, .int .u16 t2, .int .u16 t3, .int .u16 t4] rfl (fun hp => ⟨rfl, _, rfl, HCP.out⟩) (Nat.le_refl _) HON.out w8.heap.size w9 HB9.out (Nat.le_refl _) (fun w10 hw10 hb10 => ?_); have H7 := hid (H6.out.far hb10 S6.out.1); have hw11 : w10.heap[w8.heap.size]? = some (.cells ([.int .u16 h0, .int .u16 h1, .int .u16 h2, .int .u16 t0, .int .u16 t1, .int .u16 t2, .int .u16 t3, .int .u16 t4] : List Value).toArray 27 (0, 0)) := hw10.out; obtain ⟨g0, g1, g2, g3, g4, g5, g6, g7⟩ := row8 hw11; clear hw11; clear hw10 hb10 H6; obtain ⟨c0, y0⟩ := H7.out.zero.at 0 _ rfl; obtain ⟨c1, y1⟩ := H7.out.zero.at 1 _ rfl; obtain ⟨c2, y2⟩ := H7.out.zero.at 2 _ rfl; obtain ⟨c3, y3⟩ := H7.out.zero.at 3 _ rfl; obtain ⟨c4, y4⟩ := H7.out.zero.at 4 _ rfl; obtain ⟨c5, y5⟩ := H7.out.zero.at 5 _ rfl; obtain ⟨c6, y6⟩ := H7.out.zero.at 6 _ rfl; obtain ⟨c7, y7⟩ := H7.out.zero.at 7 _ rfl)
            all_goals
              go_wp2_with fail
              refine bodyPost_ret (v := .tuple #[.agg #[.int .u16 h0, .int .u16 h1, .int .u16 h2, .int .u16 t0, .int .u16 t1, .int .u16 t2, .int .u16 t3, .int .u16 t4], .bool true]) (by simp [results, Tryz.results8, go_sem, c0, c1, c2, c3, c4, c5, c6, c7]) rfl ⟨HR.out, ?_⟩
              iterate 8 refine set_at ?_ _ _
              exact H7.out.ok.1
          · have eb8' : w9.cell? ⟨w7.heap.size, 8, none⟩ = some (.int .i64 6) := by rw [eb8, hn]; rfl
            have hwr : IntKind.i64.wrap 2 = 2 := by decide
            have HR : Hid (Ending.returned (.tuple #[.agg #[.int .u16 h0, .int .u16 h1, .int .u16 t0, .int .u16 t1, .int .u16 t2, .int .u16 t3, .int .u16 t4, .int .u16 t5], .bool true]) = Ending.returned (.tuple #[.agg (u16v v6.1).toArray, .bool v6.2])) := by
              show _ = _; rw [HF.out, HFL.out, hn]; rfl
            have HCP := hid (fun j v h => HTc.out.pre [.int .u16 t0, .int .u16 t1, .int .u16 t2, .int .u16 t3, .int .u16 t4, .int .u16 t5] rfl j v h)
            have HON : Hid (∀ v ∈ ([.int .u16 t0, .int .u16 t1, .int .u16 t2, .int .u16 t3, .int .u16 t4, .int .u16 t5] : List Value), v.oneCell' = true) := fun v hv => one_u16 (l := [t0, t1, t2, t3, t4, t5]) hv
            have HB9 : Hid (Below w8.heap.size w9 w9.drew) := (Below.refl _ _).drew
            clear eb8 HF HFL hn
            go_region_law (refine step_copy_splice rfl (.tmp 65) (.tmp 69) 51 51 rfl 26 Tryz.underlying51 info_u16 (some ⟨w8.heap.size, 2, none⟩) (some ⟨w7.heap.size, 0, none⟩) 6 6 6 8 (by simp [Act.eval, Act.put]) (by simp [Act.eval, Act.put]) w8.heap.size 2 [.int .u16 h0, .int .u16 h1, .int .u16 h2, .int .u16 h3, .int .u16 h4, .int .u16 h5, .int .u16 h6, .int .u16 h7] 27 HG12.out [.int .u16 t0, .int .u16 t1, .int .u16 t2, .int .u16 t3, .int .u16 t4, .int .u16 t5] rfl (fun hp => ⟨rfl, _, rfl, HCP.out⟩) (Nat.le_refl _) HON.out w8.heap.size w9 HB9.out (Nat.le_refl _) (fun w10 hw10 hb10 => ?_); have H7 := hid (H6.out.far hb10 S6.out.1); have hw11 : w10.heap[w8.heap.size]? = some (.cells ([.int .u16 h0, .int .u16 h1, .int .u16 t0, .int .u16 t1, .int .u16 t2, .int .u16 t3, .int .u16 t4, .int .u16 t5] : List Value).toArray 27 (0, 0)) := hw10.out; obtain ⟨g0, g1, g2, g3, g4, g5, g6, g7⟩ := row8 hw11; clear hw11; clear hw10 hb10 H6; obtain ⟨c0, y0⟩ := H7.out.zero.at 0 _ rfl; obtain ⟨c1, y1⟩ := H7.out.zero.at 1 _ rfl; obtain ⟨c2, y2⟩ := H7.out.zero.at 2 _ rfl; obtain ⟨c3, y3⟩ := H7.out.zero.at 3 _ rfl; obtain ⟨c4, y4⟩ := H7.out.zero.at 4 _ rfl; obtain ⟨c5, y5⟩ := H7.out.zero.at 5 _ rfl; obtain ⟨c6, y6⟩ := H7.out.zero.at 6 _ rfl; obtain ⟨c7, y7⟩ := H7.out.zero.at 7 _ rfl)
            all_goals
              go_wp2_with fail
              refine bodyPost_ret (v := .tuple #[.agg #[.int .u16 h0, .int .u16 h1, .int .u16 t0, .int .u16 t1, .int .u16 t2, .int .u16 t3, .int .u16 t4, .int .u16 t5], .bool true]) (by simp [results, Tryz.results8, go_sem, c0, c1, c2, c3, c4, c5, c6, c7]) rfl ⟨HR.out, ?_⟩
              iterate 8 refine set_at ?_ _ _
              exact H7.out.ok.1
          · have eb8' : w9.cell? ⟨w7.heap.size, 8, none⟩ = some (.int .i64 7) := by rw [eb8, hn]; rfl
            have hwr : IntKind.i64.wrap 1 = 1 := by decide
            have HR : Hid (Ending.returned (.tuple #[.agg #[.int .u16 h0, .int .u16 t0, .int .u16 t1, .int .u16 t2, .int .u16 t3, .int .u16 t4, .int .u16 t5, .int .u16 t6], .bool true]) = Ending.returned (.tuple #[.agg (u16v v6.1).toArray, .bool v6.2])) := by
              show _ = _; rw [HF.out, HFL.out, hn]; rfl
            have HCP := hid (fun j v h => HTc.out.pre [.int .u16 t0, .int .u16 t1, .int .u16 t2, .int .u16 t3, .int .u16 t4, .int .u16 t5, .int .u16 t6] rfl j v h)
            have HON : Hid (∀ v ∈ ([.int .u16 t0, .int .u16 t1, .int .u16 t2, .int .u16 t3, .int .u16 t4, .int .u16 t5, .int .u16 t6] : List Value), v.oneCell' = true) := fun v hv => one_u16 (l := [t0, t1, t2, t3, t4, t5, t6]) hv
            have HB9 : Hid (Below w8.heap.size w9 w9.drew) := (Below.refl _ _).drew
            clear eb8 HF HFL hn
            go_region_law (refine step_copy_splice rfl (.tmp 65) (.tmp 69) 51 51 rfl 26 Tryz.underlying51 info_u16 (some ⟨w8.heap.size, 1, none⟩) (some ⟨w7.heap.size, 0, none⟩) 7 7 7 8 (by simp [Act.eval, Act.put]) (by simp [Act.eval, Act.put]) w8.heap.size 1 [.int .u16 h0, .int .u16 h1, .int .u16 h2, .int .u16 h3, .int .u16 h4, .int .u16 h5, .int .u16 h6, .int .u16 h7] 27 HG12.out [.int .u16 t0, .int .u16 t1, .int .u16 t2, .int .u16 t3, .int .u16 t4, .int .u16 t5, .int .u16 t6] rfl (fun hp => ⟨rfl, _, rfl, HCP.out⟩) (Nat.le_refl _) HON.out w8.heap.size w9 HB9.out (Nat.le_refl _) (fun w10 hw10 hb10 => ?_); have H7 := hid (H6.out.far hb10 S6.out.1); have hw11 : w10.heap[w8.heap.size]? = some (.cells ([.int .u16 h0, .int .u16 t0, .int .u16 t1, .int .u16 t2, .int .u16 t3, .int .u16 t4, .int .u16 t5, .int .u16 t6] : List Value).toArray 27 (0, 0)) := hw10.out; obtain ⟨g0, g1, g2, g3, g4, g5, g6, g7⟩ := row8 hw11; clear hw11; clear hw10 hb10 H6; obtain ⟨c0, y0⟩ := H7.out.zero.at 0 _ rfl; obtain ⟨c1, y1⟩ := H7.out.zero.at 1 _ rfl; obtain ⟨c2, y2⟩ := H7.out.zero.at 2 _ rfl; obtain ⟨c3, y3⟩ := H7.out.zero.at 3 _ rfl; obtain ⟨c4, y4⟩ := H7.out.zero.at 4 _ rfl; obtain ⟨c5, y5⟩ := H7.out.zero.at 5 _ rfl; obtain ⟨c6, y6⟩ := H7.out.zero.at 6 _ rfl; obtain ⟨c7, y7⟩ := H7.out.zero.at 7 _ rfl)
            all_goals
              go_wp2_with fail
              refine bodyPost_ret (v := .tuple #[.agg #[.int .u16 h0, .int .u16 t0, .int .u16 t1, .int .u16 t2, .int .u16 t3, .int .u16 t4, .int .u16 t5, .int .u16 t6], .bool true]) (by simp [results, Tryz.results8, go_sem, c0, c1, c2, c3, c4, c5, c6, c7]) rfl ⟨HR.out, ?_⟩
              iterate 8 refine set_at ?_ _ _
              exact H7.out.ok.1
        · have HB := hid (HZ.out (by rw [HV.out, if_neg (by decide)]; exact if_neg hlt))
          have hlt' : (8 : Int) ≤ (hs.length : Int) + (ts.length : Int) := by omega
          clear HRW HZ HV w1 w2 w3 z9r hhp htp hhe hte
          go_enter Tryz.func8, Tryz.ntmps8
          go_wp2_with fail
          refine (HC.out _ H0.out.ok.1).mono ?_
          rintro e w4 ⟨rfl, hb⟩
          have H1 := hid (H0.out.step hb)
          go_wp2_with fail
          refine (HRH.out _ H1.out.ok.1).mono ?_
          rintro e w5 ⟨rfl, hb⟩
          have H2 := hid (H1.out.step hb)
          clear hb
          have HTa := hid (Li.new w5 #[.int .u16 h0, .int .u16 h1, .int .u16 h2, .int .u16 h3, .int .u16 h4, .int .u16 h5, .int .u16 h6, .int .u16 h7, .int .i64 (hs.length : Int)] 48)
          have H3 := hid (H2.out.alloc (.cells #[.int .u16 h0, .int .u16 h1, .int .u16 h2, .int .u16 h3, .int .u16 h4, .int .u16 h5, .int .u16 h6, .int .u16 h7, .int .i64 (hs.length : Int)] 48))
          have S3 : Hid (w5.heap.size < (w5.alloc (.cells #[.int .u16 h0, .int .u16 h1, .int .u16 h2, .int .u16 h3, .int .u16 h4, .int .u16 h5, .int .u16 h6, .int .u16 h7, .int .i64 (hs.length : Int)] 48)).heap.size) := by show _ < _; simp
          go_upto_region 8 with fail
          generalize w5.alloc (.cells #[.int .u16 h0, .int .u16 h1, .int .u16 h2, .int .u16 h3, .int .u16 h4, .int .u16 h5, .int .u16 h6, .int .u16 h7, .int .i64 (hs.length : Int)] 48) = w6 at *
          go_wp2_with fail
          refine (HRT.out _ H3.out.ok.1).mono ?_
          rintro e w7 ⟨rfl, hb⟩
          have H4 := hid (H3.out.step hb)
          have HTa' := hid ((HTa.out.step hb S3.out).step ((Below.refl _ _).alloc (Nat.le_refl _) (.cells #[.int .u16 t0, .int .u16 t1, .int .u16 t2, .int .u16 t3, .int .u16 t4, .int .u16 t5, .int .u16 t6, .int .u16 t7, .int .i64 (ts.length : Int)] 48)) (by have := S3.out; have := hb.size; omega))
          have HTb := hid (Li.new w7 #[.int .u16 t0, .int .u16 t1, .int .u16 t2, .int .u16 t3, .int .u16 t4, .int .u16 t5, .int .u16 t6, .int .u16 t7, .int .i64 (ts.length : Int)] 48)
          clear hb HTa S3
          have H5 := hid (H4.out.alloc (.cells #[.int .u16 t0, .int .u16 t1, .int .u16 t2, .int .u16 t3, .int .u16 t4, .int .u16 t5, .int .u16 t6, .int .u16 t7, .int .i64 (ts.length : Int)] 48))
          go_upto_region 11 with fail
          generalize w7.alloc (.cells #[.int .u16 t0, .int .u16 t1, .int .u16 t2, .int .u16 t3, .int .u16 t4, .int .u16 t5, .int .u16 t6, .int .u16 t7, .int .i64 (ts.length : Int)] 48) = w8 at *
          obtain ⟨ea8, _⟩ := HTa'.out.at 8 _ rfl
          obtain ⟨eb8, _⟩ := HTb.out.at 8 _ rfl
          obtain ⟨c0, y0⟩ := H5.out.zero.at 0 _ rfl
          obtain ⟨c1, y1⟩ := H5.out.zero.at 1 _ rfl
          obtain ⟨c2, y2⟩ := H5.out.zero.at 2 _ rfl
          obtain ⟨c3, y3⟩ := H5.out.zero.at 3 _ rfl
          obtain ⟨c4, y4⟩ := H5.out.zero.at 4 _ rfl
          obtain ⟨c5, y5⟩ := H5.out.zero.at 5 _ rfl
          obtain ⟨c6, y6⟩ := H5.out.zero.at 6 _ rfl
          obtain ⟨c7, y7⟩ := H5.out.zero.at 7 _ rfl
          go_wp2_with fail
          refine bodyPost_ret (v := .tuple #[.agg #[.int .u16 0, .int .u16 0, .int .u16 0, .int .u16 0, .int .u16 0, .int .u16 0, .int .u16 0, .int .u16 0], .bool false]) (by simp [results, Tryz.results8, go_sem, c0, c1, c2, c3, c4, c5, c6, c7]) rfl (HB.out _ (hid H5.out.ok) _ _ _ _ _ _ _ _)
end Ip
end Go.Proofs.YteimhepmcjdbpaaGreatDoor
