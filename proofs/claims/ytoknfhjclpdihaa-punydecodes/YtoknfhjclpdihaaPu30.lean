import Derived.Test.YtoknfhjclpdihaaPu29
namespace Go.Proofs.Ytoknfhjclpdihaa
namespace Pu
open Go.RowKit Od

/-- append(out, l...) onto an empty slice of the call's own. -/
theorem app_all {ops : Array Oper} {rest : List Oper} {o : Oper} {a : Act} {Q : Exit → Act → World → Prop} (hgd : o.guard = none) (s x : Operand)
    (ho : o.op = .call { callee := .builtin .append, args := #[s, x], argTypes := #[29, 29] }) (W : World) (B : Nat) (v : Value) (ad : Addr) (cap : Nat) (xs zs : List Int) (hs : a.eval s = v) (hx : a.eval x = .slice (some ad) zs.length cap)
    (hown : W.ownsRow B 3 1 v xs.length (ivs .i64 xs)) (hsv : isSome v) (hz : SlP .i64 W (some ad) cap zs) (hn : xs.length + zs.length ≤ 1000000000) (hB : B ≤ W.heap.size)
    (h : ∀ v' w', w'.ownsRow B 3 1 v' (xs ++ zs).length (ivs .i64 (xs ++ zs)) → isSome v' → Below B W w' → (∀ k, k < W.heap.size → v.ownBlock ≠ some k → w'.heap[k]? = W.heap[k]?) → wpList Try.prog ops Q rest (a.put o.dst v') w') :
    wpList Try.prog ops Q (o :: rest) a W := by
  obtain ⟨i0, hi, hz0, hz1, hz2⟩ := info_parts Try.info_i64
  refine wpList_append_own_at _ hgd s x 29 ho B 3 i0 (.int .i64 0) 1 8 Try.underlying29 hi hz0 hz1 hz2 rfl (by decide) v xs.length (ivs .i64 xs) hs hown ad zs.length cap (ivs .i64 zs) hx (by rw [ivs_len]; omega)
    (fun j u hj => ?_) (fun u hu => by simp [ivs] at hu; obtain ⟨z, _, rfl⟩ := hu; rfl) (by unfold maxLen; omega) (by omega) hB (fun v' w' h1 h2 h3 _ => h v' w' ?_ ?_ (below_of_grown h2 B hB (fun k e => (hown.lt k e).1)) (fun k hk hne => h2.block k hk (fun e => hne e.symm)))
  · have hlt : j < zs.length := by
      have := (List.getElem?_eq_some_iff.1 hj).1
      rwa [ivs_len] at this
    obtain ⟨b, off, e, hb, hc⟩ := hz.at_ j hlt
    simp at e
    subst e
    have e2 : (⟨b, off, none⟩ : Addr).add j = ⟨b, off + j, none⟩ := by unfold Addr.add; split <;> simp_all
    rw [e2, hc]
    simp [ivs, hlt] at hj
    rw [hj]
  · have e : ivs .i64 xs ++ ivs .i64 zs = ivs .i64 (xs ++ zs) := by simp [ivs]
    rw [List.length_append, ← e]; exact h1
  · rcases h1.2 with ⟨e1, _⟩ | ⟨g, cap', cur, rfl, _⟩
    · rw [(h3.1 e1).1] at hsv; exact hsv.elim
    · trivial

/-- A law's slice of runes. -/
theorem row_sl {w : World} {a : Option Addr} {len cap : Nat} {zs : List Int} (h : (a = none ∧ len = 0 ∧ cap = 0 ∧ zs = []) ∨ ∃ x, a = some x ∧ len ≤ cap ∧ cap ≤ maxLen ∧ zs.length = cap ∧ (∀ i, i < zs.length → w.cell? (x.add i) = some (.int .i32 (zs.getD i 0))) ∧ ∀ n ∈ zs, (Lit.int .i32 n).wf = true) : (zs.take len).length = len ∧ SlP .i32 w a cap (zs.take len) ∧ ∀ y ∈ zs.take len, -2147483648 ≤ y ∧ y ≤ 2147483647 := by
  rcases h with ⟨rfl, rfl, rfl, rfl⟩ | ⟨x, rfl, hl, hm, hz, hcell, hwz⟩
  · exact ⟨rfl, ⟨Nat.le_refl _, fun _ => ⟨rfl, rfl⟩, fun k hk => by simp at hk⟩, fun y hy => by simp at hy⟩
  · have hlen : (zs.take len).length = len := by rw [List.length_take]; omega
    refine ⟨hlen, ⟨by omega, fun e => (by cases e), fun k hk => ?_⟩, fun y hy => by have h := hwz y (List.mem_of_mem_take hy); simp only [Lit.wf, Bool.and_eq_true, decide_eq_true_eq] at h; exact h⟩
    rw [hlen] at hk
    obtain ⟨b, off, spot⟩ := x
    have hc := hcell k (by omega)
    have hspot : spot = none := by simpa [Addr.add] using World.cell?_spot (hcell 0 (by omega))
    subst hspot
    have hadd : (⟨b, off, none⟩ : Addr).add k = ⟨b, off + k, none⟩ := by unfold Addr.add; split <;> simp_all
    rw [hadd] at hc
    refine ⟨b, off, rfl, World.block_lt_of_cell? w _ hc, ?_⟩
    rw [hc, List.getElem_take]
    simp [List.getD_eq_getElem?_getD, List.getElem?_eq_getElem (show k < zs.length by omega)]

theorem first_bad : ∀ (zs : List Int), zs.any byB = true → ∃ (k : Nat) (h : k < zs.length), (zs[k] < 0 ∨ 1114111 < zs[k]) ∧ ∀ j (hj : j < k), 0 ≤ zs[j] ∧ zs[j] ≤ 1114111
  | [], h => by simp at h
  | z :: zs, h => by
    by_cases hz : z < 0 ∨ 1114111 < z
    · exact ⟨0, by simp, hz, fun j hj => by omega⟩
    · have h2 : zs.any byB = true := by
        rw [List.any_cons, show byB z = false from decide_eq_false hz, Bool.false_or] at h
        exact h
      obtain ⟨k, hk, h3, h4⟩ := first_bad zs h2
      refine ⟨k + 1, by simp; omega, h3, fun j hj => ?_⟩
      cases j with
      | zero => show 0 ≤ z ∧ z ≤ 1114111; omega
      | succ j => exact h4 j (by omega)
set_option maxHeartbeats 1000000 in
theorem enc_bad {w : World} {v : Value} {zs : List Int} (hS : Sl .i32 w v zs) (hn : zs.length ≤ 120) (h : zs.any byB = true) :
    Calls Try.prog 8 #[v] w fun e w' => e = .returned (.tuple #[.string ⟨#[]⟩, .int .i64 7]) ∧ Below w.heap.size w w' := by
  have HCf := hid (contby_any w v zs hS (by omega))
  rw [h] at HCf
  obtain ⟨ao, cap, rfl, hS⟩ := hS
  clear hS h
  go_enter Try.func8, Try.ntmps8
  go_wp2_with fail
  refine HCf.out.mono ?_
  rintro e w1 ⟨rfl, hb1⟩
  have HB1 := hid hb1
  clear hb1 HCf
  go_wp2_with fail
  go_ret2
  exact ⟨rfl, HB1.out⟩
set_option maxRecDepth 100000 in
set_option maxHeartbeats 4000000 in
theorem renc_bad {w : World} {v : Value} {zs : List Int} (hS : Sn .i64 w v zs) (hn : zs.length ≤ 100) (h : zs.any byB = true) :
    Calls Try.prog 9 #[v] w fun e w' => e = .returned (.tuple #[.string ⟨#[]⟩, .int .i64 7]) ∧ Below w.heap.size w w' := by
  obtain ⟨k0, hk0, hbad, hpre⟩ := first_bad zs h
  obtain ⟨ad, cap, rfl, hS⟩ := hS
  have HS := hid hS
  have HZ : Hid (∀ (j : Nat) (x : Int), j < k0 → zs[j]? = some x → 0 ≤ x ∧ x ≤ 1114111) := fun j x hj hx => by
    have h1 := hpre j hj
    rw [List.getElem?_eq_getElem (by omega)] at hx
    rw [Option.some.inj hx] at h1
    exact h1
  have HBad : Hid (∀ x, zs[k0]? = some x → x < 0 ∨ 1114111 < x) := fun x hx => by
    rw [List.getElem?_eq_getElem hk0] at hx
    rw [Option.some.inj hx] at hbad
    exact hbad
  clear hpre hbad
  generalize hlen : zs.length = len at *
  have HLn := hid hlen
  clear hS hlen h
  go_enter Try.func9, Try.ntmps9
  go_wp2_with fail
  go_loopg [4, 5] k0 (fun gg vs vi wr => ∃ k : Nat, vi = .int .i64 k ∧ vs = .string (byt (lowL (zs.take k))) ∧ k ≤ k0 ∧ gg = k0 - k ∧ Hid (Ok w.heap.size w wr))
  case atStart => exact ⟨0, rfl, rfl, Nat.zero_le _, rfl, Ok.start w⟩
  case round =>
    obtain ⟨k, rfl, rfl, hk, hg, H⟩ := hrel
    have HG := hid hg
    clear hg
    have hlx : k < zs.length := by rw [HLn.out]; omega
    obtain ⟨bb, off, e0, hb, c1⟩ := HS.out.at_ k hlx
    have e0' := Option.some.inj e0
    subst e0'
    have d1 := (H.out.1.cell (p := ⟨bb, off + k, none⟩) hb).trans c1
    have HL := hid (lowL_succ zs k hlx)
    have z1 : (k : Int) < (len : Int) := by omega
    by_cases hlt : k < k0
    · have hx := HZ.out k zs[k] hlt (List.getElem?_eq_getElem hlx)
      have hll : (lowL (zs.take k)).length ≤ 1000 := by
        unfold lowL
        have h1 := List.length_filter_le (fun z : Int => decide (z < 128)) (zs.take k)
        rw [List.length_take] at h1
        omega
      clear c1
      generalize zs[k] = x at *
      have hx0 : ¬ x < 0 := by omega
      have hx1 : ¬ 1114111 < x := by omega
      by_cases hx2 : x < 128
      · rw [if_pos hx2] at HL
        have q1 : IntKind.u8.wrap x = x := by rw [IntKind.wrap_u8]; omega
        have hcv : (convert 50 9 (.slice (some ⟨wr.heap.size, 0, none⟩) 1 1)).run Try.prog (wr.alloc (.cells #[.int .u8 x] 5)) = .ok (.string (byt [x])) (wr.alloc (.cells #[.int .u8 x] 5)) := by
          have hby : By wr.heap.size (wr.alloc (.cells #[.int .u8 x] 5)) (.slice (some ⟨wr.heap.size, 0, none⟩) 1 1) [x] := ⟨⟨by simp [ivs], .inr ⟨wr.heap.size, 1, _, rfl, Nat.le_refl _, heap_new wr _, Nat.le_refl _, by unfold maxLen; omega, by simp, by simp [ivs]⟩⟩, by simp⟩
          exact conv_byt hby (fun y hy => by simp at hy; omega)
        have hsz : ¬ 9223372036854775807 < (byt (lowL (zs.take k))).size + (byt [x]).size := by rw [byt_size, byt_size]; simp; omega
        have HA : Hid (Ok w.heap.size w (wr.alloc (.cells #[.int .u8 x] 5))) := H.out.alloc
        go_wp2_with fail
        go_roundg (k0 - (k + 1))
        case measure => rw [HG.out]; omega
        case rel => exact ⟨k + 1, by go_num, by rw [HL.out, byt_app], by omega, rfl, HA.out⟩
      · rw [if_neg hx2, List.append_nil] at HL
        have hx3 : decide (x < 128) = false := decide_eq_false hx2
        go_wp2_with fail
        go_roundg (k0 - (k + 1))
        case measure => rw [HG.out]; omega
        case rel => exact ⟨k + 1, by go_num, by rw [HL.out], by omega, rfl, H.out⟩
    · have e : k = k0 := by omega
      subst e
      have hx := HBad.out zs[k] (List.getElem?_eq_getElem hlx)
      clear c1 HBad HZ HL
      generalize zs[k] = x at *
      rcases hx with hx | hx
      · go_wp2_with fail
        try rw [Exit.noGoto_ret]
        go_ret2
        exact ⟨rfl, H.out.1⟩
      · have hx0 : ¬ x < 0 := by omega
        go_wp2_with fail
        try rw [Exit.noGoto_ret]
        go_ret2
        exact ⟨rfl, H.out.1⟩
theorem any_no {zs : List Int} (h : zs.any byB = false) : ∀ z ∈ zs, 0 ≤ z ∧ z ≤ 1114111 := by
  intro z hz
  have := List.any_eq_false.1 h z hz
  unfold byB at this
  rw [decide_eq_true_eq] at this
  omega
/-- Decode of what Encode tells. -/
theorem dec_enc {zs : List Int} (hl : zs.length ≤ 40) (hz : ∀ z ∈ zs, 0 ≤ z ∧ z ≤ 1114111) (w : World) :
    Calls Try.prog 11 #[.string (byt (encP zs))] w fun e w' => ∃ v, e = .returned (.tuple #[v, .int .i64 0]) ∧ Sl .i32 w' v zs ∧ Below w.heap.size w w' := by
  have hb : bsI (byt (encP zs)) = encP zs := bsI_byt _ (fun x hx => by have := enc_mem (by omega) hz x hx; omega)
  refine (dec_any (byt (encP zs)) (by rw [byt_size]; have := enc_len hl hz; omega) w (fun i es hy h => ?_)).mono ?_
  · rw [hb] at hy h ⊢
    exact (enc_dec hl hz hy).2 es h
  · rintro e w' ⟨⟨i, hy, hv⟩, hbl⟩
    rw [hb] at hy hv
    rw [(enc_dec hl hz hy).1] at hv
    obtain ⟨g, rfl, _, hro⟩ := hv
    exact ⟨_, rfl, hro.sl, hbl⟩
theorem enc_byte {zs : List Int} (hl : zs.length ≤ 40) (hz : ∀ z ∈ zs, 0 ≤ z ∧ z ≤ 1114111) (k : Nat) (h : k < (byt (encP zs)).size) : ((byt (encP zs))[k].toNat : Int) ≤ 127 := by
  have hb : bsI (byt (encP zs)) = encP zs := bsI_byt _ (fun x hx => by have := enc_mem (by omega) hz x hx; omega)
  have h1 := bsI_get (byt (encP zs)) k h
  have h2 := List.getElem_mem (l := bsI (byt (encP zs))) (by rw [bsI_len]; exact h : k < _)
  rw [h1] at h2
  rw [hb] at h2
  exact (enc_mem (by omega) hz _ h2).2
theorem low_all {zs : List Int} (h : ∀ z ∈ zs, 0 ≤ z ∧ z ≤ 127) : lowL zs = zs := List.filter_eq_self.2 fun z hz => decide_eq_true (by have := h z hz; omega)
/-- Code points below 128 stand as they are. -/
theorem enc_plain {zs : List Int} (h : ∀ z ∈ zs, 0 ≤ z ∧ z ≤ 127) : encP zs = if zs.length = 0 then [] else zs ++ [45] := by
  have hz : ∀ z ∈ zs, 0 ≤ z ∧ z ≤ 1114111 := fun z hz => by have := h z hz; omega
  have hc := ord_cnt hz
  have e := enc_shape zs
  rw [low_all h] at e hc
  rw [List.eq_nil_of_length_eq_zero (by omega : (ordL zs).length = 0)] at e
  rw [e, show delL zs (ES.start zs) [] = [] from rfl, List.append_nil]
end Pu
end Go.Proofs.Ytoknfhjclpdihaa
