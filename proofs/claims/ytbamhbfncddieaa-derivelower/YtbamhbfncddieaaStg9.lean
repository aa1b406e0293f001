import Derived.Test.YtbamhbfncddieaaStg8
namespace Go.Proofs.Ytbamhbfncddieaa.Uc
open Go.RowKit

def zF (j : Nat) : Value := if j = 0 then .slice none 0 0 else if j = 1 then .slice none 0 0 else .int .u16 0
def AllZ (l : List Value) (n : Nat) : Prop := l = List.replicate n (.int .u16 0)
def PreZ (l : List Value) (n : Nat) : Prop := l = .slice none 0 0 :: .slice none 0 0 :: List.replicate n (.int .u16 0)
theorem AllZ.append {l m : List Value} {n k : Nat} (h : AllZ l n) (h' : AllZ m k) : AllZ (l.append m) (n + k) := by
  show l ++ m = _
  rw [h, h', List.replicate_append_replicate]
theorem PreZ.append {l m : List Value} {n k : Nat} (h : PreZ l n) (h' : AllZ m k) : PreZ (l.append m) (n + k) := by
  show l ++ m = _
  rw [h, h', List.cons_append, List.cons_append, List.replicate_append_replicate]

theorem zT_zero : ∃ (L : List Value), Try.t105.zero = some (.agg L.toArray) ∧ ∃ n, PreZ L n ∧ n = 4352 := by
  refine ⟨_, rfl, ?_⟩
  apply Exists.intro
  apply And.intro
  · repeat (first | apply PreZ.append | apply AllZ.append | exact (show PreZ _ 32 from rfl) | exact (show AllZ _ 34 from rfl) | exact (show AllZ _ 35 from rfl) | exact (show PreZ _ 33 from rfl))
  · rfl

theorem zT_info : Try.prog.info? 105 = some Try.t105 := by kernel_rfl
theorem zT_places : ((Try.prog.underlying 105).bind fun d => match d with | .struct fs => fs.toList.mapM (fun f => (Try.prog.info? f.type).map fun i => (f.offset, i.size)) | _ => none).isSome = true := by kernel_rfl

/-- A new table's cells. -/
theorem zT_new : ∃ zT : Array Value, zT.size = 4354 ∧ (∀ i, i < zT.size → zT[i]? = some (zF i)) ∧ Try.prog.built 105 [] = some zT := by
  obtain ⟨L, h1, n, h2, h3⟩ := zT_zero
  have hs : L.toArray.size = 4354 := by rw [h2, List.size_toArray, List.length_cons, List.length_cons, List.length_replicate, h3]
  refine ⟨L.toArray, hs, fun i hi => ?_, ?_⟩
  · rw [hs] at hi
    rw [List.getElem?_toArray, h2]
    unfold zF
    match i with
    | 0 => rfl
    | 1 => rfl
    | j + 2 =>
      have hj : j < n := by omega
      rw [List.getElem?_cons_succ, List.getElem?_cons_succ, List.getElem?_replicate, if_pos hj, if_neg (by omega), if_neg (by omega)]
  · have hp := zT_places
    unfold Program.built
    rw [zT_info]
    rw [Try.underlying105] at hp ⊢
    simp only [Option.bind_some] at hp ⊢
    obtain ⟨pl, hpl⟩ := Option.isSome_iff_exists.1 hp
    rw [h1, hpl]
    rfl

/-- A table of these rows, in block p. -/
structure TabP (w : World) (p : Nat) (l : List (SRow Tr)) (other : Tr) (f : Nat → Value) (vals : List Tr) (nr : List (SRow Nat)) (bl : List (List Nat)) (pl : List Nat) : Prop where
  row : w.rowIs p 105 4354 f
  own : ∃ B, Own1 w B (f 0) vals
  blk : ∃ B, w.ownsRow B 126 256 (f 1) bl.length (bl.flatMap u16s)
  plc : ∀ i, i < 4352 → f (2 + i) = .int .u16 (pl.getD i 0 : Nat)
  numd : Numd other l vals nr
  laid : LaidTo (at' 0 nr) 4352 bl pl
  few : vals.length ≤ 5000

def Tab (w : World) (p : Nat) (l : List (SRow Tr)) (other : Tr) : Prop := ∃ f vals nr bl pl, TabP w p l other f vals nr bl pl

theorem TabP.step {w w' : World} {p : Nat} {l : List (SRow Tr)} {other : Tr} {f : Nat → Value} {vals : List Tr} {nr : List (SRow Nat)} {bl : List (List Nat)} {pl : List Nat} (h : TabP w p l other f vals nr bl pl) (hb : Below w.heap.size w w') : TabP w' p l other f vals nr bl pl := by
  obtain ⟨B, ho⟩ := h.own
  obtain ⟨B2, ho2⟩ := h.blk
  exact ⟨h.row.of_block (hb.block p h.row.lt), ⟨B, ho.step (fun k hk => hb.block k (ho.lt k hk).2)⟩, ⟨B2, ho2.kept (row := none) ⟨hb.os, hb.tape, hb.output, hb.size, fun k hk _ => hb.block k hk⟩ (by cases (f 1).ownBlock <;> simp)⟩, h.plc, h.numd, h.laid, h.few⟩
theorem Tab.step {w w' : World} {p : Nat} {l : List (SRow Tr)} {other : Tr} (h : Tab w p l other) (hb : Below w.heap.size w w') : Tab w' p l other := by
  obtain ⟨f, vals, nr, bl, pl, h⟩ := h
  exact ⟨f, vals, nr, bl, pl, h.step hb⟩

theorem rising_num : ∀ (l : List (SRow Tr)) (nr : List (SRow Nat)) (a : Int), nr.length = l.length → (∀ (j : Nat) (x : SRow Tr) (y : SRow Nat), l[j]? = some x → nr[j]? = some y → y.f = x.f ∧ y.t = x.t) → Rising a l → Rising a nr
  | [], [], _, _, _, _ => trivial
  | [], _ :: _, _, h, _, _ => by simp at h
  | _ :: _, [], _, h, _, _ => by simp at h
  | x :: l, y :: nr, a, h, hs, hr => by
    obtain ⟨e1, e2⟩ := hs 0 x y rfl rfl
    obtain ⟨r1, r2, r3, r4⟩ := hr
    refine ⟨by omega, by omega, by omega, rising_num l nr y.t (by simpa using h) (fun j x' y' hx hy => hs (j + 1) x' y' (by simpa using hx) (by simpa using hy)) ?_⟩
    rw [e2]; exact r4

theorem fine_num {l : List (SRow Tr)} {nr : List (SRow Nat)} {vals : List Tr} {other : Tr} {a : Int} (h : Numd other l vals nr) (hv : vals.length ≤ 65536) (ha : -1 ≤ a) (hr : Rising a nr) : Fine nr := by
  intro y hy
  obtain ⟨j, hj⟩ := List.mem_iff_getElem?.1 hy
  have hlt := (List.getElem?_eq_some_iff.1 hj).1
  have hx : l[j]? = some (l[j]'(by rw [← h.len]; exact hlt)) := List.getElem?_eq_getElem _
  obtain ⟨e1, e2, e3⟩ := h.same j _ y hx hj
  have h4 := (List.getElem?_eq_some_iff.1 e3).1
  have h5 := (rising_after nr a hr j y hj).1
  have : ∀ (l : List (SRow Nat)) (a : Int), Rising a l → ∀ y ∈ l, y.f ≤ y.t ∧ y.t ≤ 1114111 := by
    intro l
    induction l with
    | nil => intro a _ y hy; simp at hy
    | cons x l ih =>
      intro a hr y hy
      obtain ⟨r1, r2, r3, r4⟩ := hr
      rcases List.mem_cons.1 hy with rfl | hy
      · exact ⟨r2, r3⟩
      · exact ih _ r4 y hy
  have h6 := this nr a hr y hy
  exact ⟨by omega, h6.1, h6.2, by omega⟩

theorem at_num (vals : List Tr) : ∀ (l : List (SRow Tr)) (nr : List (SRow Nat)) (z : Tr) (n : Nat) (r : Int), nr.length = l.length → (∀ (j : Nat) (x : SRow Tr) (y : SRow Nat), l[j]? = some x → nr[j]? = some y → y.f = x.f ∧ y.t = x.t ∧ vals[y.v]? = some x.v) → vals[n]? = some z → vals[at' n nr r]? = some (at' z l r)
  | [], [], _, _, _, _, _, h => h
  | [], _ :: _, _, _, _, h, _, _ => by simp at h
  | _ :: _, [], _, _, _, h, _, _ => by simp at h
  | x :: l, y :: nr, z, n, r, h, hs, hz => by
    obtain ⟨e1, e2, e3⟩ := hs 0 x y rfl rfl
    simp only [at', List.foldl_cons]
    rw [e1, e2]
    have ih := fun z n hz => at_num vals l nr z n r (by simpa using h) (fun j x' y' hx hy => hs (j + 1) x' y' (by simpa using hx) (by simpa using hy)) hz
    simp only [at'] at ih
    split
    · exact ih _ _ e3
    · exact ih _ _ hz

/-- What Build leaves. -/
theorem tab_of {W2 w3 w4 : World} {p : Nat} {l : List (SRow Tr)} {other : Tr} {vals : List Tr} {nr : List (SRow Nat)} {vv ov bv : Value} {bl : List (List Nat)} {pl : List Nat} (hn : NumW W2 p zF other l l.length (l.length + 1) vals nr vv ov w3) (hl : l.length ≤ 4096)
    (hy : LayW w3 p (fun j => if j = 0 then vv else zF j) 4352 bl pl bv w4) (hd : LaidTo (at' 0 nr) 4352 bl pl) : Tab w4 p l other := by
  have h1 := hn.numd
  rw [List.take_length] at h1
  have hap := hn.tab.apart
  have hown := hn.tab.own
  simp only [if_true] at hap hown
  refine ⟨_, vals, nr, bl, pl, hy.row, ⟨W2.heap.size, ?_⟩, ⟨_, hy.own⟩, fun i hi => ?_, h1, hd, by have := hn.most; omega⟩
  · simp only [if_true]
    exact hown.step (fun k hk => hy.chg.block k (hown.lt k hk).2 (fun e => hap (by rw [hk, e])))
  · have e0 : ¬ 2 + i = 0 := by omega
    have e1 : ¬ 2 + i = 1 := by omega
    have e2 : 2 + i - 2 = i := by omega
    simp only [e0, e1, e2, hi, if_false, if_true]

set_option maxHeartbeats 2000000 in
set_option maxRecDepth 100000 in
theorem build_any {w : World} {v : Value} {l : List (SRow Tr)} (h : VIn w v l) (hl : l.length ≤ maxLen) (other : Tr) :
    Calls Try.prog 31 #[v, trv other] w fun e w' => Below w.heap.size w w' ∧ ((check l ≠ 0 ∧ e = .returned (.tuple #[.pointer none, .int .i64 (check l)])) ∨ (check l = 0 ∧ ∃ p, w.heap.size ≤ p ∧ e = .returned (.tuple #[.pointer (some ⟨p, 0, none⟩), .int .i64 0]) ∧ Tab w' p l other)) := by
  have hb0 : Below w.heap.size w (w.alloc (boxT other)) := (Below.refl _ _).alloc (Nat.le_refl _) _
  have HC := hid (check_any (h.step hb0) hl)
  have HV := hid (h.step hb0)
  have HB0 := hid hb0
  have HN5 : Hid (At5 (w.alloc (boxT other)) w.heap.size 0 other) := At5.new w other _
  have hlt0 : Hid (w.heap.size < (w.alloc (boxT other)).heap.size) := by show _ < _; simp
  obtain ⟨ao, cap, rfl, hvw, _⟩ := h
  have HVW := hid hvw
  clear hvw hb0
  by_cases hc : check l = 0
  · have hlen : Hid (l.length ≤ 4096) := by
      show _ ≤ _
      rcases Nat.lt_or_ge 4096 l.length with h1 | h1
      · rw [check, if_pos h1] at hc; simp at hc
      · exact h1
    have hris : Hid (Rising (-1) l) := by
      have h1 := hlen.out
      rw [check, if_neg (by omega)] at hc
      exact rising_of_chk l (-1) (by omega) hc
    rw [hc] at HC
    clear hl
    obtain ⟨zT, zT_size, zT_at, zT_built⟩ := zT_new
    have HZ := hid (And.intro zT_size (And.intro zT_at zT_built))
    clear zT_size zT_at zT_built
    unfold trv boxT at *
    go_enter Try.func31, Try.ntmps31
    go_wp2_with fail
    generalize w.alloc (.cells #[.int .i64 other.a, .int .i64 other.b, .int .i64 other.c, .int .i64 other.d, .int .i64 other.e] 60) = W0 at *
    refine HC.out.mono ?_
    rintro e w1 ⟨rfl, hb1⟩
    have h5 : At5 (w1.alloc (.cells zT 105)) w.heap.size 0 other := (HN5.out.of_block (hb1.block _ hlt0.out)).of_block (Below.heap_alloc _ _ _ (Nat.lt_of_lt_of_le hlt0.out hb1.size))
    obtain ⟨s0, g1, g2, g3, g4⟩ := h5
    have s1 : (w1.alloc (.cells zT 105)).cell? ⟨w.heap.size, 1, none⟩ = some _ := g1
    have s2 : (w1.alloc (.cells zT 105)).cell? ⟨w.heap.size, 2, none⟩ = some _ := g2
    have s3 : (w1.alloc (.cells zT 105)).cell? ⟨w.heap.size, 3, none⟩ = some _ := g3
    have s4 : (w1.alloc (.cells zT 105)).cell? ⟨w.heap.size, 4, none⟩ = some _ := g4
    clear g1 g2 g3 g4
    go_wp2_with (first | (refine wpList_build rfl 105 #[] rfl (by simp only [List.map_toArray, List.map_nil, HZ.out.2.2]; rfl) ?_; simp only [List.map_toArray, List.map_nil, HZ.out.2.2, Option.getD_some]))
    clear s0 s1 s2 s3 s4
    have hrow : (w1.alloc (.cells zT 105)).rowIs w1.heap.size 105 4354 zF := by
      have := World.rowIs_alloc w1 zT 105 zF HZ.out.2.1
      rw [HZ.out.1] at this; exact this
    have hV2 := (HV.out.step hb1).step (w' := w1.alloc (.cells zT 105)) ((Below.refl _ _).alloc (Nat.le_refl _) _)
    have hvp : (Value.slice ao l.length cap).ownBlock ≠ some w1.heap.size := fun e => by
      have h1 := HVW.out _ e
      have h2 := hb1.size
      have h3 := hlt0.out
      omega
    have HB1 := hid hb1
    have hris2 := hris.out
    have hlen2 := hlen.out
    refine (number_any hrow rfl hV2 hvp hlen2 other).mono ?_
    rintro e w3 ⟨vals, nr, vv, ov, rfl, hN⟩
    have h1 := hN.numd
    rw [List.take_length] at h1
    have hr3 := rising_num l nr (-1) h1.len (fun j x y hx hy => ⟨(h1.same j x y hx hy).1, (h1.same j x y hx hy).2.1⟩) hris2
    have hf3 := fine_num h1 (by have := hN.most; omega) (by omega) hr3
    have hov : ov.ownBlock ≠ some w1.heap.size := fun e => by
      have h2 := (hN.own.lt _ e).1
      simp at h2
      omega
    have HY := hid (lay_any hN.tab.row rfl (rows_of_own hN.own) hov (-1) hr3 hf3 (by rw [h1.len]; omega))
    have HN := hid hN
    obtain ⟨ao3, cap3, rfl⟩ := own_slice hN.own
    clear hN h1 hr3 hf3 hov hrow hV2 hvp hb1 hris2 hlen2
    go_wp2_with fail
    refine HY.out.mono ?_
    rintro e w4 ⟨rfl, bl, pl, ⟨bv, hy⟩, hd⟩
    have HT := hid (tab_of HN.out hlen.out hy hd)
    have HW : Hid (Below w.heap.size w w4) := by
      have c1 := HN.out.chg
      have c2 := c1.trans hy.chg
      have b1 := c2.below w1.heap.size (by simp) (fun k e => by omega)
      exact HB0.out.trans (((HB1.out.alloc (o := .cells zT 105) (HB1.out.size)).trans (b1.mono HB1.out.size)).mono HB0.out.size)
    clear hy hd HY HN
    go_wp2_with fail
    go_ret2
    exact ⟨HW.out, .inr ⟨hc, w1.heap.size, Nat.le_trans HB0.out.size HB1.out.size, rfl, HT.out⟩⟩
  · have h1 : (check l == 0) = false := by simpa using hc
    clear hl HV
    unfold trv boxT at *
    go_enter Try.func31, Try.ntmps31
    go_wp2_with (go_at_call 58; refine HC.out.mono ?_; rintro e w1 ⟨rfl, hb1⟩)
    go_ret2
    exact ⟨HB0.out.trans (hb1.mono HB0.out.size), .inl ⟨hc, rfl⟩⟩
end Go.Proofs.Ytbamhbfncddieaa.Uc
