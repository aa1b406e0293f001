import Derived.Test.YteimhepmcjdbpaaGreatDoorIp11
import Derived.Test.YteimhepmcjdbpaaGreatDoorWr
import Derived.Deep.RegionWith
namespace Go.Proofs.YteimhepmcjdbpaaGreatDoor
open Go.RowKit
namespace Ip

section
variable {B b : Nat} {l : List UInt8} {w : World}
theorem bat_step {p : Value} {bs : List Value} {w' : World} (h : Lib.BuilderAtF 66 5 B b p bs w) (hb : Below w.heap.size w w') : Lib.BuilderAtF 66 5 B b p bs w' := by
  obtain ⟨hB, v, hbk, hown, hne⟩ := h
  refine ⟨hB, v, (hb.block b (Array.getElem?_eq_some_iff.1 hbk).1).trans hbk, ⟨hown.1, ?_⟩, hne⟩
  rcases hown.2 with h | ⟨g, cap, cur, fz, e, h1, h2, h3⟩
  · exact .inl h
  · exact .inr ⟨g, cap, cur, fz, e, h1, (hb.block g (Array.getElem?_eq_some_iff.1 h2).1).trans h2, h3⟩
theorem bu_step {w' : World} (h : Bu B b l w) (hb : Below w.heap.size w w') : Bu B b l w' := by
  rcases h with h | h
  · exact .inl (bat_step h hb)
  · exact .inr (bat_step h hb)
theorem bu_new (w : World) (B : Nat) (hB : B ≤ w.heap.size) : Bu B w.heap.size [] (w.alloc (.cells #[.pointer none, .slice none 0 0] 66)) :=
  .inl ⟨hB, _, heap_alloc_new w _, World.ownsRowF_nil _ _ _ _, by simp [Value.ownBlock]⟩
theorem bstr_bu (h : Bu B b l w) (hB : B ≤ w.heap.size) : Calls Tryz.prog 35 #[.pointer (some ⟨b, 0, none⟩)] w fun e w' => e = .returned (.string ⟨l.toArray⟩) ∧ Turn B b w w' :=
  (bstr_any B b l w h hB).mono fun _ _ ⟨h1, _, h3, h4⟩ => ⟨h1, h3, h4⟩
end

/-- Words with colons between, as they are written. -/
def hxI (x : Int) : List UInt8 := hxT x.toNat
def wrT : List Int → List UInt8
  | [] => []
  | x :: t => hxI x ++ t.flatMap fun y => 58 :: hxI y
theorem wrT_one (x : Int) : wrT [x] = hxI x := by simp [wrT]
theorem wrT_snoc (l : List Int) (x : Int) (h : l ≠ []) : wrT (l ++ [x]) = wrT l ++ ([58] ++ hxI x) := by
  cases l with
  | nil => exact absurd rfl h
  | cons a t => simp [wrT]
theorem hxI_len (x : Int) : (hxI x).length ≤ 4 := by
  unfold hxI hxT; repeat' split
  all_goals simp

theorem fux_any (x : Int) (w : World) (h0 : 0 ≤ x) (h1 : x ≤ 65535) (h : Db w) :
    Calls Tryz.prog 55 #[.int .u64 x, .int .i64 16] w fun e w' => e = .returned (.string ⟨(hxI x).toArray⟩) ∧ Below w.heap.size w w' := by
  obtain ⟨n, rfl⟩ := Int.eq_ofNat_of_zero_le h0
  exact fu_any n w (by omega) h

theorem wrT_len : ∀ ws : List Int, (wrT ws).length ≤ 5 * ws.length
  | [] => Nat.le_refl _
  | x :: t => by
    have h1 := hxI_len x
    have h2 : ∀ l : List Int, (l.flatMap fun y => 58 :: hxI y).length ≤ 5 * l.length := by
      intro l
      induction l with
      | nil => exact Nat.le_refl _
      | cons y l ih =>
        have := hxI_len y
        rw [List.flatMap_cons, List.length_append, List.length_cons, List.length_cons]; omega
    have := h2 t
    unfold wrT
    rw [List.length_append, List.length_cons]; omega
theorem bytes_ext {a b : ByteArray} (h : a.data.toList = b.data.toList) : a = b := by
  cases a; cases b; simp at h; rw [h]

/-- A row of words as it is read. -/
def Rw6 (W : World) (ao : Option Addr) (ws : List Int) : Prop := ∀ j (h : j < ws.length), ∃ g off, ao = some ⟨g, off, none⟩ ∧ g < W.heap.size ∧ W.cell? ⟨g, off + j, none⟩ = some (.int .u16 ws[j])
theorem Rw6.step {W W' : World} {ao : Option Addr} {ws : List Int} (h : Rw6 W ao ws) (hb : Below W.heap.size W W') : Rw6 W' ao ws := fun j hj => by
  obtain ⟨g, off, e, hl, hc⟩ := h j hj
  exact ⟨g, off, e, Nat.lt_of_lt_of_le hl hb.size, (hb.cell (p := ⟨g, off + j, none⟩) hl).trans hc⟩

set_option maxRecDepth 100000 in
set_option maxHeartbeats 4000000 in
theorem wri_any {ao : Option Addr} {cap n : Nat} {ws : List Int} (w : World) (hR : Rw6 w ao ws) (hn : ws.length = n) (h8 : n ≤ 8) (hw : ∀ x ∈ ws, 0 ≤ x ∧ x ≤ 65535) (hD : Db w) :
    Calls Tryz.prog 37 #[.slice ao n cap] w fun e w' => e = .returned (.string ⟨(wrT ws).toArray⟩) ∧ Below w.heap.size w w' := by
  subst hn
  have HN := hid (bu_new w w.heap.size (Nat.le_refl _))
  have HR := hid (fun (W : World) (h : Below w.heap.size w W) => hR.step h)
  have HD := hid (fun (W : World) (h : Below w.heap.size w W) => hD.step h)
  have HWB := hid (fun (j : Nat) (h : j < ws.length) => hw ws[j] (List.getElem_mem h))
  clear hR hD hw
  go_enter Tryz.func37, Tryz.ntmps37
  go_wp2
  go_loopw [8] (fun i wr => ∃ (k : Nat) (l : List UInt8), k ≤ ws.length ∧ i = .int .i64 k ∧ Ok w.heap.size w wr ∧ Bu w.heap.size w.heap.size l wr ∧ l.length ≤ 5 * k ∧ Hid (l = wrT (ws.take k))) (fun i _ => ws.length - (intOf i).toNat)
  case atStart => exact ⟨0, [], Nat.zero_le _, rfl, (Ok.start w).alloc, HN.out, Nat.zero_le _, rfl⟩
  case round =>
    obtain ⟨k, l, hk, rfl, hok, hB, hos, hin⟩ := hrel
    clear HN
    have HO := hid hok
    have HBu := hid hB
    clear hok hB
    by_cases hlt : k < ws.length
    · obtain ⟨g, off, rfl, hgl, hc⟩ := HR.out wr HO.out.1 k hlt
      obtain ⟨x0, x1⟩ := HWB.out k hlt
      have htk : ws.take (k + 1) = ws.take k ++ [ws[k]] := by rw [List.take_succ_eq_append_getElem hlt]
      have HS : Hid ((k = 0 → wrT (ws.take (k + 1)) = l ++ hxI ws[k]) ∧ (0 < k → wrT (ws.take (k + 1)) = (l ++ [58]) ++ hxI ws[k])) := by
        refine ⟨fun h => ?_, fun h => ?_⟩
        · subst h
          have e := hin.out
          rw [htk, e]; simp [wrT]
        · rw [htk, wrT_snoc _ _ (by intro e; have := congrArg List.length e; rw [List.length_take, List.length_nil] at this; omega), ← hin.out, List.append_assoc]
      have hxl := hxI_len ws[k]
      have HF := hid (fun (W : World) (h : Below w.heap.size w W) => fux_any ws[k] W x0 x1 (HD.out W h))
      have HW2 := hid (fun (m : List UInt8) (W : World) (h : Bu w.heap.size w.heap.size m W) (hB : w.heap.size ≤ W.heap.size) (hm : m.length ≤ 1000) => wstr_any ⟨(hxI ws[k]).toArray⟩ h hB (by show m.length + (hxI ws[k]).toArray.size ≤ _; simp; omega))
      have er : (ByteArray.mk (hxI ws[k]).toArray).data.toList = hxI ws[k] := by simp
      have HW1 := hid (fun (W : World) (h : Bu w.heap.size w.heap.size l W) (hB : w.heap.size ≤ W.heap.size) => wstr_any ⟨#[58]⟩ h hB (by show l.length + 1 ≤ _; omega))
      rw [er] at HW2
      have HXL := hid hxl
      clear hin htk er hxl
      generalize (ByteArray.mk (hxI ws[k]).toArray) = r at *
      generalize hxI ws[k] = hx at *
      have hm : ws[k] % 18446744073709551616 = ws[k] := by omega
      generalize ws[k] = x at *
      by_cases hk0 : k = 0
      · have H1 := hid (HS.out.1 hk0)
        subst hk0
        rw [Nat.add_zero] at hc
        clear HS
        go_wp2_with fail
        refine (HF.out _ HO.out.1).mono ?_
        rintro e w1 ⟨rfl, hb⟩
        have HO1 := hid (HO.out.step hb)
        have HB1 := hid (bu_step HBu.out hb)
        clear hb
        go_wp2_with fail
        refine (HW2.out l _ HB1.out HO1.out.2 (by omega)).mono ?_
        rintro e w2 ⟨rfl, hB2, ht⟩
        have HO2 : Hid (Ok w.heap.size w w2) := ⟨HO1.out.1.trans ht.1, Nat.le_trans HO1.out.2 ht.1.size⟩
        clear ht
        go_wp2_with fail
        go_roundw
        case rel => exact ⟨1, _, by omega, by go_num, HO2.out, hB2, by rw [List.length_append]; have := HXL.out; omega, H1.out.symm⟩
        case measure => simp [intOf]; omega
      · have H1 := hid (HS.out.2 (by omega))
        have hk0' : (0 : Int) < (k : Int) := by omega
        clear HS
        go_wp2_with fail
        refine (HW1.out _ HBu.out HO.out.2).mono ?_
        rintro e w1 ⟨rfl, hB1, ht⟩
        have HO1 : Hid (Ok w.heap.size w w1) := ⟨HO.out.1.trans ht.1, Nat.le_trans HO.out.2 ht.1.size⟩
        have HB1 := hid hB1
        clear ht hB1
        go_wp2_with fail
        refine (HF.out _ HO1.out.1).mono ?_
        rintro e w2 ⟨rfl, hb⟩
        have HO2 := hid (HO1.out.step hb)
        have HB2 := hid (bu_step HB1.out hb)
        clear hb
        go_wp2_with fail
        refine (HW2.out _ _ HB2.out HO2.out.2 (by rw [List.length_append]; show l.length + 1 ≤ _; omega)).mono ?_
        rintro e w3 ⟨rfl, hB3, ht⟩
        have HO3 : Hid (Ok w.heap.size w w3) := ⟨HO2.out.1.trans ht.1, Nat.le_trans HO2.out.2 ht.1.size⟩
        clear ht
        go_wp2_with fail
        go_roundw
        case rel => exact ⟨k + 1, _, by omega, by go_num, HO3.out, hB3, by rw [List.length_append, List.length_append]; have := HXL.out; show l.length + 1 + _ ≤ _; omega, H1.out.symm⟩
        case measure => simp [intOf]; omega
    · have e : ws.take k = ws := List.take_of_length_le (by omega)
      rw [e] at hin
      have HBS := hid (bstr_bu HBu.out HO.out.2)
      have HL := hid hin.out
      go_wp2_with fail
      refine HBS.out.mono ?_
      rintro e w1 ⟨rfl, ht⟩
      have HF := hid (HO.out.1.trans ht.1)
      clear ht
      go_wp2_with fail
      go_ret
      exact ⟨by rw [HL.out]; rfl, HF.out⟩
/-- The longest run of words of noughts: how many words were looked at, the run that is under way, where the longest one begins, its size. -/
def lgS (st : Nat × Nat × Nat × Nat) (x : Int) : Nat × Nat × Nat × Nat :=
  if x ≠ 0 then (st.1 + 1, 0, st.2.2.1, st.2.2.2) else if st.2.2.2 < st.2.1 + 1 then (st.1 + 1, st.2.1 + 1, st.1 - st.2.1, st.2.1 + 1) else (st.1 + 1, st.2.1 + 1, st.2.2.1, st.2.2.2)
def lgT (ws : List Int) : Nat × Nat × Nat × Nat := ws.foldl lgS (0, 0, 0, 0)
theorem lgT_snoc (ws : List Int) (x : Int) : lgT (ws ++ [x]) = lgS (lgT ws) x := by unfold lgT; rw [List.foldl_append]; rfl
theorem lgT_bd (ws : List Int) : (lgT ws).1 = ws.length ∧ (lgT ws).2.1 ≤ ws.length ∧ (lgT ws).2.2.1 + (lgT ws).2.2.2 ≤ ws.length := by
  suffices h : ∀ (l : List Int) (st : Nat × Nat × Nat × Nat), st.2.1 ≤ st.1 → st.2.2.1 + st.2.2.2 ≤ st.1 → (l.foldl lgS st).1 = st.1 + l.length ∧ (l.foldl lgS st).2.1 ≤ st.1 + l.length ∧ (l.foldl lgS st).2.2.1 + (l.foldl lgS st).2.2.2 ≤ st.1 + l.length by
    have := h ws (0, 0, 0, 0) (Nat.le_refl _) (Nat.le_refl _)
    simpa [lgT] using this
  intro l
  induction l with
  | nil => intro st h1 h2; exact ⟨rfl, h1, h2⟩
  | cons x l ih =>
    intro st h1 h2
    have e : (lgS st x).1 = st.1 + 1 ∧ (lgS st x).2.1 ≤ st.1 + 1 ∧ (lgS st x).2.2.1 + (lgS st x).2.2.2 ≤ st.1 + 1 := by
      unfold lgS
      split
      · refine ⟨rfl, ?_, ?_⟩ <;> simp <;> omega
      · split
        · refine ⟨rfl, ?_, ?_⟩ <;> simp <;> omega
        · refine ⟨rfl, ?_, ?_⟩ <;> simp <;> omega
    have := ih (lgS st x) (by omega) (by omega)
    rw [List.foldl_cons, List.length_cons]
    omega

theorem ix8 (x0 x1 x2 x3 x4 x5 x6 x7 : Int) : (∀ W, (Instr.index 27 (.agg #[.int .u16 x0, .int .u16 x1, .int .u16 x2, .int .u16 x3, .int .u16 x4, .int .u16 x5, .int .u16 x6, .int .u16 x7]) (.int .i64 0)).run Tryz.prog W = .ok (.int .u16 x0) W) ∧ (∀ W, (Instr.index 27 (.agg #[.int .u16 x0, .int .u16 x1, .int .u16 x2, .int .u16 x3, .int .u16 x4, .int .u16 x5, .int .u16 x6, .int .u16 x7]) (.int .i64 1)).run Tryz.prog W = .ok (.int .u16 x1) W) ∧ (∀ W, (Instr.index 27 (.agg #[.int .u16 x0, .int .u16 x1, .int .u16 x2, .int .u16 x3, .int .u16 x4, .int .u16 x5, .int .u16 x6, .int .u16 x7]) (.int .i64 2)).run Tryz.prog W = .ok (.int .u16 x2) W) ∧ (∀ W, (Instr.index 27 (.agg #[.int .u16 x0, .int .u16 x1, .int .u16 x2, .int .u16 x3, .int .u16 x4, .int .u16 x5, .int .u16 x6, .int .u16 x7]) (.int .i64 3)).run Tryz.prog W = .ok (.int .u16 x3) W) ∧ (∀ W, (Instr.index 27 (.agg #[.int .u16 x0, .int .u16 x1, .int .u16 x2, .int .u16 x3, .int .u16 x4, .int .u16 x5, .int .u16 x6, .int .u16 x7]) (.int .i64 4)).run Tryz.prog W = .ok (.int .u16 x4) W) ∧ (∀ W, (Instr.index 27 (.agg #[.int .u16 x0, .int .u16 x1, .int .u16 x2, .int .u16 x3, .int .u16 x4, .int .u16 x5, .int .u16 x6, .int .u16 x7]) (.int .i64 5)).run Tryz.prog W = .ok (.int .u16 x5) W) ∧ (∀ W, (Instr.index 27 (.agg #[.int .u16 x0, .int .u16 x1, .int .u16 x2, .int .u16 x3, .int .u16 x4, .int .u16 x5, .int .u16 x6, .int .u16 x7]) (.int .i64 6)).run Tryz.prog W = .ok (.int .u16 x6) W) ∧ (∀ W, (Instr.index 27 (.agg #[.int .u16 x0, .int .u16 x1, .int .u16 x2, .int .u16 x3, .int .u16 x4, .int .u16 x5, .int .u16 x6, .int .u16 x7]) (.int .i64 7)).run Tryz.prog W = .ok (.int .u16 x7) W) :=
  ⟨fun _ => by kernel_rfl, fun _ => by kernel_rfl, fun _ => by kernel_rfl, fun _ => by kernel_rfl, fun _ => by kernel_rfl, fun _ => by kernel_rfl, fun _ => by kernel_rfl, fun _ => by kernel_rfl⟩

set_option maxRecDepth 100000 in
set_option maxHeartbeats 4000000 in
theorem lon_any (x0 x1 x2 x3 x4 x5 x6 x7 : Int) (w : World) :
    Calls Tryz.prog 36 #[.agg #[.int .u16 x0, .int .u16 x1, .int .u16 x2, .int .u16 x3, .int .u16 x4, .int .u16 x5, .int .u16 x6, .int .u16 x7]] w fun e w' => e = .returned (.tuple #[.int .i64 ((lgT [x0, x1, x2, x3, x4, x5, x6, x7]).2.2.1 : Nat), .int .i64 ((lgT [x0, x1, x2, x3, x4, x5, x6, x7]).2.2.2 : Nat)]) ∧ Below w.heap.size w w' := by
  have HB := hid ((Below.refl w.heap.size w).alloc (Nat.le_refl _) (.cells #[.int .u16 x0, .int .u16 x1, .int .u16 x2, .int .u16 x3, .int .u16 x4, .int .u16 x5, .int .u16 x6, .int .u16 x7] 27))
  have HX : ∀ (k : Nat), k < 8 → ∃ x, [x0, x1, x2, x3, x4, x5, x6, x7][k]? = some x ∧ (#[Value.int .u16 x0, .int .u16 x1, .int .u16 x2, .int .u16 x3, .int .u16 x4, .int .u16 x5, .int .u16 x6, .int .u16 x7])[k]? = some (.int .u16 x) ∧ lgT ([x0, x1, x2, x3, x4, x5, x6, x7].take (k + 1)) = lgS (lgT ([x0, x1, x2, x3, x4, x5, x6, x7].take k)) x := by
    intro k hk
    have hk' : k < [x0, x1, x2, x3, x4, x5, x6, x7].length := hk
    refine ⟨[x0, x1, x2, x3, x4, x5, x6, x7][k], List.getElem?_eq_getElem hk', ?_, by rw [List.take_succ_eq_append_getElem hk', lgT_snoc]⟩
    have : (#[Value.int .u16 x0, .int .u16 x1, .int .u16 x2, .int .u16 x3, .int .u16 x4, .int .u16 x5, .int .u16 x6, .int .u16 x7])[k]? = (([x0, x1, x2, x3, x4, x5, x6, x7] : List Int).map (Value.int .u16 ·))[k]? := by simp
    rw [this, List.getElem?_map, List.getElem?_eq_getElem hk']; rfl
  have HXH := hid HX
  obtain ⟨r0, r1, r2, r3, r4, r5, r6, r7⟩ := ix8 x0 x1 x2 x3 x4 x5 x6 x7
  clear HX
  go_enter Tryz.func36, Tryz.ntmps36
  go_wp2
  go_loop [2, 3, 4, 8] (fun a z r i => ∃ k : Nat, k ≤ 8 ∧ a = .int .i64 ((lgT ([x0, x1, x2, x3, x4, x5, x6, x7].take k)).2.2.1 : Nat) ∧ z = .int .i64 ((lgT ([x0, x1, x2, x3, x4, x5, x6, x7].take k)).2.2.2 : Nat) ∧ r = .int .i64 ((lgT ([x0, x1, x2, x3, x4, x5, x6, x7].take k)).2.1 : Nat) ∧ i = .int .i64 k) (fun _ _ _ i => 8 - (intOf i).toNat)
  case atStart => exact ⟨0, by omega, rfl, rfl, rfl, rfl⟩
  case round =>
    obtain ⟨k, hk, rfl, rfl, rfl, rfl⟩ := hrel
    by_cases hlt : k < 8
    · have hbd := lgT_bd ([x0, x1, x2, x3, x4, x5, x6, x7].take k)
      rw [List.length_take] at hbd
      have hln : min k ([x0, x1, x2, x3, x4, x5, x6, x7]).length = k := Nat.min_eq_left hk
      rw [hln] at hbd
      obtain ⟨x, h1, h2, h3⟩ := HXH.out k hlt
      have h1 : [x0, x1, x2, x3, x4, x5, x6, x7][k]? = some x := h1
      generalize hst : lgT ([x0, x1, x2, x3, x4, x5, x6, x7].take k) = st at *
      obtain ⟨i0, run, at_, size⟩ := st
      simp only at hbd
      obtain ⟨rfl, hb2, hb3⟩ := hbd
      clear hst hln
      have hks : i0 = 0 ∨ i0 = 1 ∨ i0 = 2 ∨ i0 = 3 ∨ i0 = 4 ∨ i0 = 5 ∨ i0 = 6 ∨ i0 = 7 := by omega
      by_cases hx : x = 0
      · have hx' : (x != 0) = false := by rw [hx]; rfl
        by_cases hs : size < run + 1
        · have HS : Hid (∀ j, j = i0 + 1 → lgT ([x0, x1, x2, x3, x4, x5, x6, x7].take j) = (i0 + 1, run + 1, i0 - run, run + 1)) := by
            rintro j rfl; rw [h3]; unfold lgS; rw [if_neg (by simpa using hx), if_pos hs]
          have hs' : (size : Int) < (run : Int) + 1 := by omega
          clear hx h3 hs
          rcases hks with rfl | rfl | rfl | rfl | rfl | rfl | rfl | rfl
          all_goals
            have h1 := Option.some.inj h1
            rw [← h1] at hx'
            clear h1 h2
            go_wp2_with fail
            go_round
            case rel => exact ⟨_, by decide, int_eq (by rw [HS.out _ rfl]; simp only; omega), int_eq (by rw [HS.out _ rfl]; rfl), int_eq (by rw [HS.out _ rfl]; rfl), rfl⟩
            case measure => simp [intOf]
        · have HS : Hid (∀ j, j = i0 + 1 → lgT ([x0, x1, x2, x3, x4, x5, x6, x7].take j) = (i0 + 1, run + 1, at_, size)) := by
            rintro j rfl; rw [h3]; unfold lgS; rw [if_neg (by simpa using hx), if_neg hs]
          have hs' : ¬ (size : Int) < (run : Int) + 1 := by omega
          clear hx h3 hs
          rcases hks with rfl | rfl | rfl | rfl | rfl | rfl | rfl | rfl
          all_goals
            have h1 := Option.some.inj h1
            rw [← h1] at hx'
            clear h1 h2
            go_wp2_with fail
            go_round
            case rel => exact ⟨_, by decide, int_eq (by rw [HS.out _ rfl]), int_eq (by rw [HS.out _ rfl]), int_eq (by rw [HS.out _ rfl]; rfl), rfl⟩
            case measure => simp [intOf]
      · have hx' : (x != 0) = true := by rw [bne_iff_ne]; exact hx
        have HS : Hid (∀ j, j = i0 + 1 → lgT ([x0, x1, x2, x3, x4, x5, x6, x7].take j) = (i0 + 1, 0, at_, size)) := by
          rintro j rfl; rw [h3]; unfold lgS; rw [if_pos hx]
        clear hx h3
        rcases hks with rfl | rfl | rfl | rfl | rfl | rfl | rfl | rfl
        all_goals
          have h1 := Option.some.inj h1
          rw [← h1] at hx'
          clear h1 h2
          go_wp2_with fail
          go_round
          case rel => exact ⟨_, by decide, int_eq (by rw [HS.out _ rfl]), int_eq (by rw [HS.out _ rfl]), int_eq (by rw [HS.out _ rfl]; rfl), rfl⟩
          case measure => simp [intOf]
    · have h8 : k = 8 := by omega
      subst h8
      have e : [x0, x1, x2, x3, x4, x5, x6, x7].take 8 = [x0, x1, x2, x3, x4, x5, x6, x7] := rfl
      rw [e]
      clear HXH e
      go_wp2
      go_ret2
      exact ⟨rfl, HB.out⟩
/-- An address as it is written. -/
def tx6 (xs : List Int) : List UInt8 := if (lgT xs).2.2.2 < 2 then wrT xs else wrT (xs.take (lgT xs).2.2.1) ++ [58, 58] ++ wrT (xs.drop ((lgT xs).2.2.1 + (lgT xs).2.2.2))

theorem box8 (w : World) (x0 x1 x2 x3 x4 x5 x6 x7 : Int) : Li (w.alloc (.cells #[.int .u16 x0, .int .u16 x1, .int .u16 x2, .int .u16 x3, .int .u16 x4, .int .u16 x5, .int .u16 x6, .int .u16 x7] 27)) w.heap.size (u16v [x0, x1, x2, x3, x4, x5, x6, x7]) := Li.new w _ _
theorem rw_take {W : World} {g : Nat} {xs : List Int} (h : Li W g (u16v xs)) (hg : g < W.heap.size) (k : Nat) : Rw6 W (some ⟨g, 0, none⟩) (xs.take k) := fun j hj => by
  have hj' : j < xs.length := by rw [List.length_take] at hj; omega
  have := (h.at j (.int .u16 xs[j]) (by unfold u16v; rw [List.getElem?_map, List.getElem?_eq_getElem hj']; rfl)).1
  exact ⟨g, 0, rfl, hg, by rw [Nat.zero_add, List.getElem_take]; exact this⟩
theorem rw_drop {W : World} {g : Nat} {xs : List Int} (h : Li W g (u16v xs)) (hg : g < W.heap.size) (k : Nat) (a : Option Addr) (ha : k < xs.length → a = some ⟨g, k, none⟩) : Rw6 W a (xs.drop k) := fun j hj => by
  have hj' : k + j < xs.length := by rw [List.length_drop] at hj; omega
  have := (h.at (k + j) (.int .u16 xs[k + j]) (by unfold u16v; rw [List.getElem?_map, List.getElem?_eq_getElem hj']; rfl)).1
  exact ⟨g, k, ha (by omega), hg, by rw [List.getElem_drop]; exact this⟩
theorem bd_take {xs : List Int} (h : ∀ x ∈ xs, 0 ≤ x ∧ x ≤ 65535) (k : Nat) : ∀ x ∈ xs.take k, 0 ≤ x ∧ x ≤ 65535 := fun x hx => h x (List.mem_of_mem_take hx)
theorem bd_drop {xs : List Int} (h : ∀ x ∈ xs, 0 ≤ x ∧ x ≤ 65535) (k : Nat) : ∀ x ∈ xs.drop k, 0 ≤ x ∧ x ≤ 65535 := fun x hx => h x (List.mem_of_mem_drop hx)

set_option maxRecDepth 100000 in
set_option maxHeartbeats 4000000 in
theorem text6_any (x0 x1 x2 x3 x4 x5 x6 x7 : Int) (w : World) (hw : ∀ x ∈ [x0, x1, x2, x3, x4, x5, x6, x7], 0 ≤ x ∧ x ≤ 65535) (hD : Db w) :
    Calls Tryz.prog 16 #[.agg #[.int .u16 x0, .int .u16 x1, .int .u16 x2, .int .u16 x3, .int .u16 x4, .int .u16 x5, .int .u16 x6, .int .u16 x7]] w fun e w' => e = .returned (.string ⟨(tx6 [x0, x1, x2, x3, x4, x5, x6, x7]).toArray⟩) ∧ Below w.heap.size w w' := by
  have HL := hid (box8 w x0 x1 x2 x3 x4 x5 x6 x7)
  have HO := hid ((Ok.start w).alloc (o := .cells #[.int .u16 x0, .int .u16 x1, .int .u16 x2, .int .u16 x3, .int .u16 x4, .int .u16 x5, .int .u16 x6, .int .u16 x7] 27))
  have S0 : Hid (w.heap.size < (w.alloc (.cells #[.int .u16 x0, .int .u16 x1, .int .u16 x2, .int .u16 x3, .int .u16 x4, .int .u16 x5, .int .u16 x6, .int .u16 x7] 27)).heap.size) := by show _ < _; simp
  have HLg := hid (lon_any x0 x1 x2 x3 x4 x5 x6 x7)
  have HD := hid (fun (W : World) (h : Below w.heap.size w W) => hD.step h)
  have hbd := lgT_bd [x0, x1, x2, x3, x4, x5, x6, x7]
  have HW := hid hw
  have HT : Hid (tx6 [x0, x1, x2, x3, x4, x5, x6, x7] = if (lgT [x0, x1, x2, x3, x4, x5, x6, x7]).2.2.2 < 2 then wrT [x0, x1, x2, x3, x4, x5, x6, x7] else wrT ([x0, x1, x2, x3, x4, x5, x6, x7].take (lgT [x0, x1, x2, x3, x4, x5, x6, x7]).2.2.1) ++ [58, 58] ++ wrT ([x0, x1, x2, x3, x4, x5, x6, x7].drop ((lgT [x0, x1, x2, x3, x4, x5, x6, x7]).2.2.1 + (lgT [x0, x1, x2, x3, x4, x5, x6, x7]).2.2.2))) := rfl
  have hb8 : (lgT [x0, x1, x2, x3, x4, x5, x6, x7]).2.2.1 + (lgT [x0, x1, x2, x3, x4, x5, x6, x7]).2.2.2 ≤ 8 := hbd.2.2
  obtain ⟨r, hr⟩ : ∃ r, tx6 [x0, x1, x2, x3, x4, x5, x6, x7] = r := ⟨_, rfl⟩
  rw [hr] at HT ⊢
  clear hw hD hbd hr
  generalize (lgT [x0, x1, x2, x3, x4, x5, x6, x7]).2.2.1 = at_ at *
  generalize (lgT [x0, x1, x2, x3, x4, x5, x6, x7]).2.2.2 = size at *
  go_enter Tryz.func16, Tryz.ntmps16
  go_upto_region 1 with fail
  obtain ⟨e0, _⟩ := HL.out.at 0 _ rfl
  obtain ⟨e1, _⟩ := HL.out.at 1 _ rfl
  obtain ⟨e2, _⟩ := HL.out.at 2 _ rfl
  obtain ⟨e3, _⟩ := HL.out.at 3 _ rfl
  obtain ⟨e4, _⟩ := HL.out.at 4 _ rfl
  obtain ⟨e5, _⟩ := HL.out.at 5 _ rfl
  obtain ⟨e6, _⟩ := HL.out.at 6 _ rfl
  obtain ⟨e7, _⟩ := HL.out.at 7 _ rfl
  generalize w.alloc (.cells #[.int .u16 x0, .int .u16 x1, .int .u16 x2, .int .u16 x3, .int .u16 x4, .int .u16 x5, .int .u16 x6, .int .u16 x7] 27) = w1 at *
  go_wp2_with fail
  refine (HLg.out _).mono ?_
  rintro e w2 ⟨rfl, hb⟩
  have HO2 := hid (HO.out.step hb)
  have HL2 := hid (HL.out.step hb S0.out)
  have S2 : Hid (w.heap.size < w2.heap.size) := Nat.lt_of_lt_of_le S0.out hb.size
  clear hb HL HO S0 HLg e0 e1 e2 e3 e4 e5 e6 e7
  by_cases h2 : size < 2
  · rw [if_pos h2] at HT
    have h2' : (size : Int) < 2 := by omega
    have hRw := rw_take HL2.out S2.out 8
    have HWr := hid (wri_any (cap := 8) (n := 8) w2 hRw rfl (Nat.le_refl _) HW.out (HD.out _ HO2.out.1))
    clear hRw
    go_wp2_with fail
    refine HWr.out.mono ?_
    rintro e w3 ⟨rfl, hb⟩
    have HF := hid ((HO2.out.step hb).1)
    clear hb
    go_wp2_with fail
    go_ret
    exact ⟨by rw [HT.out]; rfl, HF.out⟩
  · rw [if_neg h2] at HT
    have h2' : ¬ (size : Int) < 2 := by omega
    have HW1 := hid (fun (W : World) (h : Below w2.heap.size w2 W) => wri_any (cap := 8) (n := at_) W (rw_take (HL2.out.step h S2.out) (Nat.lt_of_lt_of_le S2.out h.size) at_) (by rw [List.length_take]; show min at_ 8 = at_; omega) (by omega) (bd_take HW.out at_) (HD.out _ (HO2.out.step h).1))
    have HW2 := hid (fun (a : Option Addr) (ha : at_ + size < 8 → a = some ⟨w.heap.size, at_ + size, none⟩) (c n : Nat) (hn : n = 8 - (at_ + size)) (W : World) (h : Below w2.heap.size w2 W) => wri_any (cap := c) (n := n) W (rw_drop (HL2.out.step h S2.out) (Nat.lt_of_lt_of_le S2.out h.size) (at_ + size) a ha) (by rw [List.length_drop]; exact hn.symm) (by omega) (bd_drop HW.out (at_ + size)) (HD.out _ (HO2.out.step h).1))
    have z1 : (at_ : Int) ≤ 8 := by omega
    have z2 : (at_ : Int) + (size : Int) ≤ 8 := by omega
    clear h2
    have hdr : Below w2.heap.size w2 w2.drew := (Below.refl _ _).drew
    have HDR := hid hdr
    have hwr : IntKind.i64.wrap ((at_ : Int) + (size : Int)) = (at_ : Int) + (size : Int) := by rw [IntKind.wrap_i64]; omega
    have hl1 := wrT_len ([x0, x1, x2, x3, x4, x5, x6, x7].take at_)
    have hl2 := wrT_len ([x0, x1, x2, x3, x4, x5, x6, x7].drop (at_ + size))
    have er : ∀ l : List UInt8, (ByteArray.mk l.toArray).data.toList = l := fun l => by simp
    have ez : ∀ l : List UInt8, (ByteArray.mk l.toArray).size = l.length := fun l => by rw [← len_size, er]
    have hz1 : (ByteArray.mk (wrT ([x0, x1, x2, x3, x4, x5, x6, x7].take at_)).toArray).size ≤ 40 := by
      rw [ez]; rw [List.length_take] at hl1; have : min at_ [x0, x1, x2, x3, x4, x5, x6, x7].length ≤ 8 := Nat.min_le_right _ _; omega
    have hz2 : (ByteArray.mk (wrT ([x0, x1, x2, x3, x4, x5, x6, x7].drop (at_ + size))).toArray).size ≤ 40 := by
      rw [ez]; rw [List.length_drop] at hl2; have : [x0, x1, x2, x3, x4, x5, x6, x7].length = 8 := rfl; omega
    have HR : Hid ((ByteArray.mk r.toArray) = (ByteArray.mk (wrT ([x0, x1, x2, x3, x4, x5, x6, x7].take at_)).toArray) ++ ⟨#[58, 58]⟩ ++ (ByteArray.mk (wrT ([x0, x1, x2, x3, x4, x5, x6, x7].drop (at_ + size))).toArray)) := by
      show _ = _
      apply bytes_ext
      rw [HT.out]
      simp
    clear hdr hl1 hl2 er ez HT
    generalize (ByteArray.mk (wrT ([x0, x1, x2, x3, x4, x5, x6, x7].take at_)).toArray) = s1 at *
    generalize (ByteArray.mk (wrT ([x0, x1, x2, x3, x4, x5, x6, x7].drop (at_ + size))).toArray) = s2 at *
    have hzz : (s1 ++ (⟨#[58, 58]⟩ : ByteArray)).size ≤ 42 := by
      have h := ByteArray.size_append (a := s1) (b := (⟨#[58, 58]⟩ : ByteArray))
      have h2 : (ByteArray.mk #[58, 58]).size = 2 := rfl
      omega
    by_cases h8 : at_ + size = 8
    · have h8' : (at_ : Int) + (size : Int) = 8 := by omega
      have hw8 : IntKind.i64.wrap 8 = 8 := by decide
      go_upto_region 4 with fail
      go_region_with (first | (go_at_call 37; refine (HW2.out _ (fun h => absurd h8 (by omega)) _ _ (by omega) _ HB4.out).mono ?_; rintro e w5 ⟨rfl, hb5⟩; have HB5 := hid (HB4.out.trans (hb5.mono HB4.out.size)); clear hb5) | (go_at_call 37; refine (HW1.out _ HDR.out).mono ?_; rintro e w4 ⟨rfl, hb4⟩; have HB4 := hid (HDR.out.trans (hb4.mono (Nat.le_refl _))); clear hb4))
      all_goals
        go_wp2_with fail
        go_ret
        exact ⟨by rw [HR.out]; rfl, (HO2.out.step HB5.out).1⟩
    · obtain ⟨m, hm⟩ : ∃ m, at_ + size = m := ⟨_, rfl⟩
      have hms : (at_ : Int) + (size : Int) = (m : Int) := by omega
      have hwm : IntKind.i64.wrap (m : Int) = (m : Int) := by rw [IntKind.wrap_i64]; omega
      have hm8 : ¬ m = 8 := by omega
      have hm8' : (m : Int) ≤ 8 := by omega
      have hm9 : m < 8 := by omega
      rw [hm] at HW2
      clear hwr h8
      go_upto_region 4 with fail
      go_region_with (first | (go_at_call 37; refine (HW2.out _ (fun h => rfl) _ _ (by omega) _ HB4.out).mono ?_; rintro e w5 ⟨rfl, hb5⟩; have HB5 := hid (HB4.out.trans (hb5.mono HB4.out.size)); clear hb5) | (go_at_call 37; refine (HW1.out _ HDR.out).mono ?_; rintro e w4 ⟨rfl, hb4⟩; have HB4 := hid (HDR.out.trans (hb4.mono (Nat.le_refl _))); clear hb4))
      all_goals
        go_wp2_with fail
        go_ret
        exact ⟨by rw [HR.out]; rfl, (HO2.out.step HB5.out).1⟩
end Ip
end Go.Proofs.YteimhepmcjdbpaaGreatDoor
