import Derived.Test.YtoknfhjclpdihaaPu9
namespace Go.Proofs.Ytoknfhjclpdihaa
namespace Pu
open Go.RowKit Od

/-- The row of places, kept while bytes are written. -/
structure RK (bt : Nat) (v : Value) (g : Nat) (l : List Int) (T : List Value) (W : World) : Prop where
  blk : Blk W g l T
  ne : g ≠ bt
  own : v.ownBlock ≠ some g
theorem RK.step {bt : Nat} {v : Value} {g : Nat} {l : List Int} {T : List Value} {W W' : World} (h : RK bt v g l T W) (hb : Below W.heap.size W W') : RK bt v g l T W' := ⟨h.blk.step hb, h.ne, h.own⟩
theorem RK.add {bt : Nat} {v : Value} {g : Nat} {l : List Int} {T : List Value} {W W' : World} (h : RK bt v g l T W) (ha : Alt bt W W') : RK bt v g l T W' := ⟨(ha.block g h.blk.lt h.ne).trans h.blk, h.ne, h.own⟩
theorem RK.put {bt : Nat} {v v' : Value} {g : Nat} {l : List Int} {T : List Value} {W W' : World} (h : RK bt v g l T W) (hg : Gr W v W' v') : RK bt v' g l T W' :=
  ⟨(hg.grown.block g h.blk.lt (fun e => h.own e.symm)).trans h.blk, h.ne, fun e => by
    rcases hg.own g e with h1 | h1
    · exact h.own h1
    · have := h.blk.lt; omega⟩

/-- The row of places, or none. -/
def Rrow (bt : Nat) (v : Value) (l : List Int) (ao : Option Addr) (W : World) : Prop := l = [] ∨ ∃ g T, ao = some ⟨g, 0, none⟩ ∧ RK bt v g l T W

set_option maxRecDepth 100000 in
set_option maxHeartbeats 8000000 in
theorem enc_ok {w : World} {v : Value} {zs : List Int} (hS : Sl .i32 w v zs) (hn : zs.length ≤ 120) (hz : ∀ z ∈ zs, 0 ≤ z ∧ z ≤ 1114111) (hout : ∀ x ∈ encP zs, 0 ≤ x ∧ x ≤ 255) :
    Calls Try.prog 8 #[v] w fun e w' => e = .returned (.tuple #[.string (byt (encP zs)), .int .i64 0]) ∧ Below w.heap.size w w' := by
  have HCf := hid (contby_any w v zs hS (by omega))
  have hany : zs.any byB = false := by
    rw [List.any_eq_false]
    intro x hx
    have := hz x hx
    unfold byB
    rw [decide_eq_true_eq]; omega
  rw [hany] at HCf
  have HBy := hid (fun (W : World) (h : Below w.heap.size w W) => bycode_any (hS.step h) hz (by omega))
  obtain ⟨ao, cap, rfl, hS⟩ := hS
  have HS := hid hS
  have HZ := hid hz
  have HOut := hid hout
  have HSt := hid (ES.start_ok zs hz)
  generalize hlen : zs.length = len at *
  have HLn := hid hlen
  clear hS hz hlen hany hout
  go_enter Try.func8, Try.ntmps8
  go_wp2_with fail
  refine HCf.out.mono ?_
  rintro e w1 ⟨rfl, hb1⟩
  have HB1 := hid hb1
  clear hb1 HCf
  go_wp2_with fail
  refine (newt_any len (by omega) w1).mono ?_
  rintro e w2 ⟨rfl, hbt, hb2⟩
  have H2 : Hid (EW w w1.heap.size w2.heap.size (aK zs 0) (len + 1) (.slice none 0 0) [] w2) := by
    refine ⟨HB1.out.trans (hb2.mono HB1.out.size), ⟨_, hbt, ?_, by simp⟩, ⟨World.ownsRow_nil _ _ _ _, Nat.le_refl _⟩, HB1.out.size, hbt.lt⟩
    rw [aK_start, HLn.out]
    exact tal_zero len (by omega)
  clear hbt hb2
  generalize hbtE : w1.heap.size = bt at *
  generalize hBE : w2.heap.size = B at *
  clear hbtE hBE
  go_wp2_with fail
  go_loopg [5, 24] len (fun gg vo vi wr => ∃ k : Nat, vi = .int .i64 k ∧ k ≤ len ∧ gg = len - k ∧ Hid (EW w bt B (aK zs k) (len + 1) vo (lowL (zs.take k)) wr))
  case atStart => exact ⟨0, rfl, Nat.zero_le _, rfl, H2.out⟩
  case round =>
    obtain ⟨k, rfl, hk, hg, H⟩ := hrel
    have HG := hid hg
    clear hg H2
    by_cases hlt : k < len
    · have hlx : k < zs.length := by rw [HLn.out]; exact hlt
      obtain ⟨bb, off, rfl, hb, c1⟩ := HS.out.at_ k hlx
      have d1 := (H.out.ok.cell (p := ⟨bb, off + k, none⟩) hb).trans c1
      have HA := hid (aK_succ zs k hlx)
      have HL := hid (lowL_succ zs k hlx)
      have HGt := hid (aK_get zs k hlx)
      have hx := HZ.out zs[k] (List.getElem_mem hlx)
      have hlow : Hid ((lowL (zs.take k)).length ≤ 1000) := by
        show _ ≤ _
        unfold lowL
        have h1 := List.length_filter_le (fun z : Int => decide (z < 128)) (zs.take k)
        rw [List.length_take] at h1
        omega
      have HAl := hid (aK_len zs k (by omega))
      have z1 : (k : Int) < (len : Int) := by omega
      clear c1
      generalize zs[k] = x at *
      by_cases hx2 : x < 128
      · rw [if_pos hx2] at HA HL
        have q1 : IntKind.u8.wrap x = x := by rw [IntKind.wrap_u8]; omega
        generalize hln : (lowL (zs.take k)).length = ln at *
        have HN := hid hln
        clear hln
        go_wp2_with (at_builtin; refine app_u8 rfl (.tmp 31) (.tmp 34) rfl wr B ln _ (ivs .u8 (lowL (zs.take k))) x rfl wr.heap.size rfl rfl (by have := H.out.by_.own; rw [HN.out] at this; exact this) (by have := hlow.out; omega) H.out.by_.lo (fun v3 w3 h1 h2 => ?_); have H3 := hid (H.out.put h2 (H.out.by_.put HN.out h1 h2)); clear h1 h2)
        obtain ⟨R, r1, r2, r3⟩ := H3.out.tal
        have HTa := hid (tadd_any (cap := len + 1) r1 r2 k (by rw [HAl.out, HLn.out]; exact hlt) 1 (by rw [HGt.out]; omega) (len + 1) r3)
        rw [HGt.out] at HTa
        clear r1 r2 r3
        refine HTa.out.mono ?_
        rintro e w4 ⟨rfl, h1, h2⟩
        have H4 : Hid (EW w bt B (aK zs (k + 1)) (len + 1) v3 (lowL (zs.take (k + 1))) w4) := by
          show EW _ _ _ _ _ _ _ _
          rw [HA.out, HL.out]
          exact H3.out.add h2 h1
        clear h1 h2
        go_wp2_with fail
        go_roundg (len - (k + 1))
        case measure => rw [HG.out]; omega
        case rel => exact ⟨k + 1, by go_num, by omega, rfl, H4.out⟩
      · rw [if_neg hx2] at HA HL
        rw [List.append_nil] at HL
        have H4 : Hid (EW w bt B (aK zs (k + 1)) (len + 1) u5 (lowL (zs.take (k + 1))) wr) := by
          show EW _ _ _ _ _ _ _ _
          rw [HA.out, HL.out, set_same _ _ _ _ HGt.out]
          exact H.out
        have hx3 : decide (x < 128) = false := decide_eq_false hx2
        go_wp2_with fail
        go_roundg (len - (k + 1))
        case measure => rw [HG.out]; omega
        case rel => exact ⟨k + 1, by go_num, by omega, rfl, H4.out⟩
    · -- LOOP2
      have e : k = len := by omega
      subst e
      have HEnd : Hid (EW w bt B (lowA zs) (k + 1) u5 (lowL zs) wr) := by
        have := H.out
        have e1 : aK zs k = lowA zs := by rw [← HLn.out]; exact aK_end zs
        have e2 : zs.take k = zs := by rw [← HLn.out]; exact List.take_length
        rwa [e1, e2] at this
      clear H
      have hlow : (lowL zs).length ≤ 120 := by
        unfold lowL
        have h1 := List.length_filter_le (fun z : Int => decide (z < 128)) zs
        rw [HLn.out] at h1
        omega
      obtain ⟨ao5, cap5, rfl⟩ := own_slice HEnd.out.by_.own
      have HSo0 : Hid ((ES.start zs).out = if (lowL zs).length = 0 then [] else lowL zs ++ [45]) := rfl
      have HST0 : Hid ((ES.start zs).st = (lowL zs).length) := rfl
      generalize hl0 : (lowL zs).length = st0 at *
      have HL0 := hid hl0
      clear hl0
      have z0 : ¬ (k : Int) < (k : Int) := by omega
      by_cases h0 : st0 = 0
      · have HEW : Hid (EW w bt B (ES.start zs).a (k + 1) (.slice ao5 st0 cap5) (ES.start zs).out wr) := by
          show EW _ _ _ (lowA zs) _ _ _ _
          have hnil : lowL zs = [] := List.eq_nil_of_length_eq_zero (by rw [HL0.out]; exact h0)
          have h1 := HEnd.out
          rw [HSo0.out, if_pos h0, ← hnil]
          exact h1
        have HSo : Hid ((ES.start zs).out.length ≤ 200) := by show _ ≤ _; rw [HSo0.out, if_pos h0]; simp
        clear HEnd HSo0
        subst h0
        go_wp2_with fail
        refine (HBy.out wr HEW.out.ok).mono ?_
        rintro e w6 ⟨v6, rfl, hrow, hb6⟩
        have HR6 : ∃ ao6 cap6, v6 = .slice ao6 (ordL zs).length cap6 := by
          rcases hrow with ⟨h1, h2⟩ | ⟨g, cp, T, h2, _⟩
          · exact ⟨none, 0, by rw [h1, h2]; rfl⟩
          · exact ⟨_, cp, h2⟩
        obtain ⟨ao6, cap6, rfl⟩ := HR6
        have HRr : Hid (Rrow bt (.slice ao5 0 cap5) (ordL zs) ao6 w6) := by
          rcases hrow with ⟨h1, h2⟩ | ⟨g, cp, T, h2, _, hgl, hBg⟩
          · exact .inl h1
          · injection h2 with h3 _ _
            have hlt := HEW.out.tal
            obtain ⟨Rt, ht, _, _⟩ := hlt
            have hlt := ht.lt
            refine .inr ⟨g, T, h3, hBg, by omega, fun e => ?_⟩
            have := (HEW.out.by_.own.lt g e).2
            omega
        have HE6 := hid (HEW.out.step hb6)
        have hm : (ordL zs).length ≤ 120 := by
          have h1 := posL_len zs zs.length
          have h2 : (ordL zs).length = (posL zs zs.length).length := (sw_srt (kyP zs) _).len
          have h3 := HLn.out
          omega
        have HO6 : Hid ((ES.start zs).out.length ≤ 200) := HSo.out
        clear hrow hb6 HEW HBy HSo
        generalize hml : (ordL zs).length = m at *
        have HML := hid hml
        clear hml
        go_wp2_with fail
        go_loopg [5, 8, 9, 10, 11, 50] m (fun gg vo vst vn vp vb vi wr => ∃ (j st : Nat) (nn pl bi : Int), vi = .int .i64 j ∧ vst = .int .i64 st ∧ vn = .int .i64 nn ∧ vp = .int .i64 pl ∧ vb = .int .i64 bi ∧ j ≤ m ∧ gg = m - j ∧ Hid (∃ s : ES, s = ((ordL zs).take j).foldl (ES.step zs) (ES.start zs) ∧ s.Ok zs ((ordL zs).drop j) ∧ s.n = nn ∧ s.place = pl ∧ s.bias = bi ∧ s.st = st ∧ s.i = j ∧ s.out.length ≤ 200 + 20 * j ∧ EW w bt B s.a (k + 1) vo s.out wr ∧ Rrow bt vo (ordL zs) ao6 wr))
        case atStart => exact ⟨0, 0, 128, 0, 72, rfl, rfl, rfl, rfl, rfl, Nat.zero_le _, rfl, ES.start zs, by rw [List.take_zero]; rfl, by rw [List.drop_zero]; exact HSt.out, rfl, rfl, rfl, HST0.out, rfl, HO6.out, HE6.out, HRr.out⟩
        case round =>
          obtain ⟨j, st, nn, pl, bi, rfl, rfl, rfl, rfl, rfl, hk, hg, H⟩ := hrel
          have HG := hid hg
          clear hg HE6 HRr HO6 HSt
          by_cases hlt : j < m
          · have hlo : j < (ordL zs).length := by rw [HML.out]; exact hlt
            obtain ⟨s, hs, hOk, rfl, rfl, rfl, rfl, hsi, hso, hEW, hRr⟩ := H.out
            have hdr : (ordL zs).drop j = (ordL zs)[j] :: (ordL zs).drop (j + 1) := List.drop_eq_getElem_cons hlo
            have hfold : ((ordL zs).take (j + 1)).foldl (ES.step zs) (ES.start zs) = s.step zs (ordL zs)[j] := by
              rw [List.take_succ_eq_append_getElem hlo, List.foldl_append, ← hs]; rfl
            rw [hdr] at hOk
            have hhd := hOk.head (by rw [HLn.out]; omega)
            have HNx := hid (hOk.next (by rw [HLn.out]; omega))
            have hbds := And.intro hOk.n0 (And.intro hOk.p0 (And.intro hOk.p1 (And.intro hOk.b0 hOk.b1)))
            obtain ⟨q, hq, hql, hqa, hq1, hq2, hq3⟩ := hOk.rest (ordL zs)[j] (by exact List.mem_cons_self)
            have hrc : ∃ g, ao6 = some ⟨g, 0, none⟩ ∧ ∃ T, RK bt u5 g (ordL zs) T wr := by
              rcases hRr with h1 | ⟨g, T, h3, h4⟩
              · rw [h1] at hlo; simp at hlo
              · exact ⟨g, h3, T, h4⟩
            obtain ⟨g, rfl, T, hRK⟩ := hrc
            have cg := hRK.blk.cell j (q : Int) (by rw [List.getElem?_eq_getElem hlo, hq])
            have HRK := hid hRK
            have HEWr := hid hEW
            have HFo := hid hfold
            have HSi := hid hsi
            have HSol := hid hso
            have hky : kyP zs (ordL zs)[j] = zs[q] := by
              rw [hq]
              unfold kyP
              rw [if_pos (by omega), Int.toNat_natCast, List.getD_eq_getElem?_getD, List.getElem?_eq_getElem hql]; rfl
            obtain ⟨bb, off, rfl, hb, c1⟩ := HS.out.at_ q hql
            have hcl : Hid (∀ W, Below wr.heap.size wr W → W.cell? ⟨bb, off + q, none⟩ = some (.int .i32 zs[q])) := hid (fun W h => ((hEW.ok.trans (h.mono hEW.ok.size)).cell (p := ⟨bb, off + q, none⟩) hb).trans c1)
            have HStp : Hid (s.step zs (ordL zs)[j] = { n := zs[q], place := ps s.a q + 1, bias := (adP (s.d zs (ordL zs)[j]).toNat (s.st + 1) (s.i == 0) : Nat), st := s.st + 1, a := s.a.set q 1, out := s.out ++ wrP (s.d zs (ordL zs)[j]) s.bias, i := s.i + 1 }) := by
              show ES.step zs s _ = _
              unfold ES.step
              rw [hky, hq, Int.toNat_natCast]
            have HDd : Hid (s.d zs (ordL zs)[j] = (zs[q] - s.n) * ((s.st : Int) + 1) + (ps s.a q - s.place)) := by
              show ES.d zs s _ = _
              unfold ES.d
              rw [hky, hq, Int.toNat_natCast]
            have hzq := HZ.out zs[q] (List.getElem_mem hql)
            have hnx : s.n ≤ zs[q] := by rw [← hky]; exact hq1
            rw [hky] at hhd
            rw [show ((ordL zs)[j]).toNat = q by rw [hq]; exact Int.toNat_natCast q] at hhd
            have haq : s.a.getD q 0 = 0 := hqa
            have hal : q < s.a.length := by rw [hOk.len]; exact hql
            have haq2 : Hid (s.a[q] = 0) := by
              have := haq
              rw [List.getD_eq_getElem?_getD, List.getElem?_eq_getElem hal] at this
              exact this
            have HAh : Hid (∀ W, Below wr.heap.size wr W → Calls Try.prog 26 #[.slice (some ⟨bt, 0, none⟩) (k + 1) (k + 1), .int .i64 q] W fun e w' => e = .returned (.int .i64 (ps s.a q)) ∧ w' = W) := hid (fun W h => by
              obtain ⟨R, r1, r2, r3⟩ := hEW.tal
              exact tahead_any (r1.step h) r2 q (by omega) (k + 1) r3)
            have hkn : q < k := by rw [← HLn.out]; exact hql
            have z4 : (q : Int) < (k : Int) := by omega
            have HAl := hid hal
            rw [hq] at HStp HDd hhd HNx HFo
            clear hdr hOk hRr hRK hEW hs hfold hsi hso hky c1 hb hqa haq hq1 hq2 hq3 hq hlo H
            generalize hdE : s.d zs (q : Int) = dd at *
            generalize zs[q] = x at *
            obtain ⟨b1, b2, b3, b4, b5⟩ := hbds
            obtain ⟨d1, d2, d3, d4, d5, d6, d7⟩ := hhd
            have HDe := HDd.out
            generalize hX : (x - s.n) * ((s.st : Int) + 1) = X at *
            generalize hto : ps s.a q = to_ at *
            have HTo := hid hto
            clear hto
            have HBd : Hid (Below wr.heap.size wr wr.drew) := (Below.refl _ _).drew
            have hX2 : (x - s.n) * ((s.st : Int) + 1) = X := hX
            have hdd : X + (to_ - s.place) = dd := HDe.symm
            have hwrl : (wrP dd s.bias).length ≤ 11 := wr_short 10 _ dd 36 s.bias d1 (by omega)
            have HAd := hid (fun (W : World) (h : By B W u5 s.out) => adel_any h (by have := HSol.out; omega) dd s.bias d1 (by omega) (by omega) (by omega))
            have HAda : Hid (∀ W, Calls Try.prog 19 #[.int .i64 dd, .int .i64 ((s.st : Int) + 1), .bool ((j : Int) == 0)] W fun e w' => e = .returned (.int .i64 (adP dd.toNat (s.st + 1) (s.i == 0) : Nat)) ∧ w' = W) := by
              refine hid (fun W => ?_)
              have e1 : (dd.toNat : Int) = dd := Int.toNat_of_nonneg d1
              have hc := HSi.out
              by_cases hk : j = 0
              · have h1 := adapt_t dd.toNat (s.st + 1) W (by omega) (by omega) (by omega)
                rw [e1] at h1
                rw [hc, hk]
                exact h1
              · have h1 := adapt_f dd.toNat (s.st + 1) W (by omega) (by omega) (by omega)
                rw [e1] at h1
                have e2 : ((j : Int) == 0) = false := by simpa using hk
                have e3 : (s.i == 0) = false := by rw [hc]; simpa using hk
                rw [e2, e3]
                exact h1
            clear HDd HDe hX
            generalize adP dd.toNat (s.st + 1) (s.i == 0) = nb at *
            have hwx : IntKind.i64.wrap x = x := by rw [IntKind.wrap_i64]; omega
            have H7 := hid (And.intro (HEWr.out.step HBd.out) (HRK.out.step HBd.out))
            go_wp2_with fail
            go_region_held3 (fun w' => w'.cell? ⟨bb, off + q, none⟩ = some (.int .i32 x))
              (first | exact hcl.out _ (Below.refl _ _) | exact hcl.out _ HBd.out)
              (first | (go_at_call 26; refine (HAh.out _ HBd.out).mono ?_; rintro e w7 ⟨rfl, rfl⟩))
            go_wp2_with fail
            refine (HAd.out _ H7.out.1.by_).mono ?_
            rintro e w8 ⟨v8, rfl, hby, hgr⟩
            have H8 := hid (And.intro (H7.out.1.put hgr hby) (H7.out.2.put hgr))
            clear hby hgr
            go_wp2_with fail
            refine (HAda.out _).mono ?_
            rintro e w9 ⟨rfl, rfl⟩
            obtain ⟨Rt, r1, r2, r3⟩ := H8.out.1.tal
            have HTa := hid (tadd_any (cap := k + 1) r1 r2 q HAl.out 1 (by rw [haq2.out]; omega) (k + 1) r3)
            rw [haq2.out] at HTa
            clear r1 r2 r3
            go_wp2_with fail
            refine HTa.out.mono ?_
            rintro e w10 ⟨rfl, h1, h2⟩
            have H10 : Hid (EW w bt B (s.a.set q 1) (k + 1) v8 (s.out ++ wrP dd s.bias) w10 ∧ RK bt v8 g (ordL zs) T w10) := ⟨H8.out.1.add h2 h1, H8.out.2.add h2⟩
            clear h1 h2
            go_wp2_with fail
            go_roundg (m - (j + 1))
            case measure => rw [HG.out]; omega
            case rel => exact ⟨j + 1, s.st + 1, x, to_ + 1, nb, by go_num, by go_num, rfl, by go_num, rfl, by omega, rfl, s.step zs q, HFo.out.symm, HNx.out, by rw [HStp.out], by rw [HStp.out], by rw [HStp.out], by rw [HStp.out], by rw [HStp.out, HSi.out], by rw [HStp.out]; have := HSol.out; simp only [List.length_append]; omega, by rw [HStp.out]; exact H10.out.1, .inr ⟨g, T, rfl, H10.out.2⟩⟩
          · have e : j = m := by omega
            subst e
            obtain ⟨s, hs, _, rfl, rfl, rfl, rfl, _, _, hEW, _⟩ := H.out
            have HEn : Hid (s.out = encP zs) := by
              show _ = _
              rw [hs, ← HML.out, List.take_length]; rfl
            have hcv := conv_byt hEW.by_ (by rw [HEn.out]; exact HOut.out)
            have HEWe := hid hEW
            rw [HEn.out] at hcv
            clear hs hEW H
            have z0' : ¬ (j : Int) < (j : Int) := by omega
            go_wp2_with fail
            go_ret2
            exact ⟨rfl, HEWe.out.ok⟩
      · have HSo : Hid ((ES.start zs).out.length ≤ 200) := by show _ ≤ _; rw [HSo0.out, if_neg h0]; have := HL0.out; simp; omega
        have z9 : (0 : Int) < (st0 : Int) := by omega
        go_wp2_with (at_builtin; refine app_u8 rfl (.tmp 44) (.tmp 45) rfl wr B st0 _ (ivs .u8 (lowL zs)) 45 rfl wr.heap.size rfl rfl (by have := HEnd.out.by_.own; rw [HL0.out] at this; exact this) (by omega) HEnd.out.by_.lo (fun v5 w5 h1 h2 => ?_); have HEW : Hid (EW w bt B (ES.start zs).a (k + 1) v5 (ES.start zs).out w5) := (by show EW _ _ _ (lowA zs) _ _ _ _; rw [HSo0.out, if_neg h0]; exact HEnd.out.put h2 (HEnd.out.by_.put HL0.out h1 h2)); clear h1 h2 HEnd)
        refine (HBy.out w5 HEW.out.ok).mono ?_
        rintro e w6 ⟨v6, rfl, hrow, hb6⟩
        have HR6 : ∃ ao6 cap6, v6 = .slice ao6 (ordL zs).length cap6 := by
          rcases hrow with ⟨h1, h2⟩ | ⟨g, cp, T, h2, _⟩
          · exact ⟨none, 0, by rw [h1, h2]; rfl⟩
          · exact ⟨_, cp, h2⟩
        obtain ⟨ao6, cap6, rfl⟩ := HR6
        have HRr : Hid (Rrow bt v5 (ordL zs) ao6 w6) := by
          rcases hrow with ⟨h1, h2⟩ | ⟨g, cp, T, h2, _, hgl, hBg⟩
          · exact .inl h1
          · injection h2 with h3 _ _
            have hlt := HEW.out.tal
            obtain ⟨Rt, ht, _, _⟩ := hlt
            have hlt := ht.lt
            refine .inr ⟨g, T, h3, hBg, by omega, fun e => ?_⟩
            have := (HEW.out.by_.own.lt g e).2
            omega
        have HE6 := hid (HEW.out.step hb6)
        have hm : (ordL zs).length ≤ 120 := by
          have h1 := posL_len zs zs.length
          have h2 : (ordL zs).length = (posL zs zs.length).length := (sw_srt (kyP zs) _).len
          have h3 := HLn.out
          omega
        have HO6 : Hid ((ES.start zs).out.length ≤ 200) := HSo.out
        clear hrow hb6 HEW HBy HSo
        generalize hml : (ordL zs).length = m at *
        have HML := hid hml
        clear hml
        go_wp2_with fail
        go_loopg [5, 8, 9, 10, 11, 50] m (fun gg vo vst vn vp vb vi wr => ∃ (j st : Nat) (nn pl bi : Int), vi = .int .i64 j ∧ vst = .int .i64 st ∧ vn = .int .i64 nn ∧ vp = .int .i64 pl ∧ vb = .int .i64 bi ∧ j ≤ m ∧ gg = m - j ∧ Hid (∃ s : ES, s = ((ordL zs).take j).foldl (ES.step zs) (ES.start zs) ∧ s.Ok zs ((ordL zs).drop j) ∧ s.n = nn ∧ s.place = pl ∧ s.bias = bi ∧ s.st = st ∧ s.i = j ∧ s.out.length ≤ 200 + 20 * j ∧ EW w bt B s.a (k + 1) vo s.out wr ∧ Rrow bt vo (ordL zs) ao6 wr))
        case atStart => exact ⟨0, st0, 128, 0, 72, rfl, rfl, rfl, rfl, rfl, Nat.zero_le _, rfl, ES.start zs, by rw [List.take_zero]; rfl, by rw [List.drop_zero]; exact HSt.out, rfl, rfl, rfl, HST0.out, rfl, HO6.out, HE6.out, HRr.out⟩
        case round =>
          obtain ⟨j, st, nn, pl, bi, rfl, rfl, rfl, rfl, rfl, hk, hg, H⟩ := hrel
          have HG := hid hg
          clear hg HE6 HRr HO6 HSt
          by_cases hlt : j < m
          · have hlo : j < (ordL zs).length := by rw [HML.out]; exact hlt
            obtain ⟨s, hs, hOk, rfl, rfl, rfl, rfl, hsi, hso, hEW, hRr⟩ := H.out
            have hdr : (ordL zs).drop j = (ordL zs)[j] :: (ordL zs).drop (j + 1) := List.drop_eq_getElem_cons hlo
            have hfold : ((ordL zs).take (j + 1)).foldl (ES.step zs) (ES.start zs) = s.step zs (ordL zs)[j] := by
              rw [List.take_succ_eq_append_getElem hlo, List.foldl_append, ← hs]; rfl
            rw [hdr] at hOk
            have hhd := hOk.head (by rw [HLn.out]; omega)
            have HNx := hid (hOk.next (by rw [HLn.out]; omega))
            have hbds := And.intro hOk.n0 (And.intro hOk.p0 (And.intro hOk.p1 (And.intro hOk.b0 hOk.b1)))
            obtain ⟨q, hq, hql, hqa, hq1, hq2, hq3⟩ := hOk.rest (ordL zs)[j] (by exact List.mem_cons_self)
            have hrc : ∃ g, ao6 = some ⟨g, 0, none⟩ ∧ ∃ T, RK bt u5 g (ordL zs) T wr := by
              rcases hRr with h1 | ⟨g, T, h3, h4⟩
              · rw [h1] at hlo; simp at hlo
              · exact ⟨g, h3, T, h4⟩
            obtain ⟨g, rfl, T, hRK⟩ := hrc
            have cg := hRK.blk.cell j (q : Int) (by rw [List.getElem?_eq_getElem hlo, hq])
            have HRK := hid hRK
            have HEWr := hid hEW
            have HFo := hid hfold
            have HSi := hid hsi
            have HSol := hid hso
            have hky : kyP zs (ordL zs)[j] = zs[q] := by
              rw [hq]
              unfold kyP
              rw [if_pos (by omega), Int.toNat_natCast, List.getD_eq_getElem?_getD, List.getElem?_eq_getElem hql]; rfl
            obtain ⟨bb, off, rfl, hb, c1⟩ := HS.out.at_ q hql
            have hcl : Hid (∀ W, Below wr.heap.size wr W → W.cell? ⟨bb, off + q, none⟩ = some (.int .i32 zs[q])) := hid (fun W h => ((hEW.ok.trans (h.mono hEW.ok.size)).cell (p := ⟨bb, off + q, none⟩) hb).trans c1)
            have HStp : Hid (s.step zs (ordL zs)[j] = { n := zs[q], place := ps s.a q + 1, bias := (adP (s.d zs (ordL zs)[j]).toNat (s.st + 1) (s.i == 0) : Nat), st := s.st + 1, a := s.a.set q 1, out := s.out ++ wrP (s.d zs (ordL zs)[j]) s.bias, i := s.i + 1 }) := by
              show ES.step zs s _ = _
              unfold ES.step
              rw [hky, hq, Int.toNat_natCast]
            have HDd : Hid (s.d zs (ordL zs)[j] = (zs[q] - s.n) * ((s.st : Int) + 1) + (ps s.a q - s.place)) := by
              show ES.d zs s _ = _
              unfold ES.d
              rw [hky, hq, Int.toNat_natCast]
            have hzq := HZ.out zs[q] (List.getElem_mem hql)
            have hnx : s.n ≤ zs[q] := by rw [← hky]; exact hq1
            rw [hky] at hhd
            rw [show ((ordL zs)[j]).toNat = q by rw [hq]; exact Int.toNat_natCast q] at hhd
            have haq : s.a.getD q 0 = 0 := hqa
            have hal : q < s.a.length := by rw [hOk.len]; exact hql
            have haq2 : Hid (s.a[q] = 0) := by
              have := haq
              rw [List.getD_eq_getElem?_getD, List.getElem?_eq_getElem hal] at this
              exact this
            have HAh : Hid (∀ W, Below wr.heap.size wr W → Calls Try.prog 26 #[.slice (some ⟨bt, 0, none⟩) (k + 1) (k + 1), .int .i64 q] W fun e w' => e = .returned (.int .i64 (ps s.a q)) ∧ w' = W) := hid (fun W h => by
              obtain ⟨R, r1, r2, r3⟩ := hEW.tal
              exact tahead_any (r1.step h) r2 q (by omega) (k + 1) r3)
            have hkn : q < k := by rw [← HLn.out]; exact hql
            have z4 : (q : Int) < (k : Int) := by omega
            have HAl := hid hal
            rw [hq] at HStp HDd hhd HNx HFo
            clear hdr hOk hRr hRK hEW hs hfold hsi hso hky c1 hb hqa haq hq1 hq2 hq3 hq hlo H
            generalize hdE : s.d zs (q : Int) = dd at *
            generalize zs[q] = x at *
            obtain ⟨b1, b2, b3, b4, b5⟩ := hbds
            obtain ⟨d1, d2, d3, d4, d5, d6, d7⟩ := hhd
            have HDe := HDd.out
            generalize hX : (x - s.n) * ((s.st : Int) + 1) = X at *
            generalize hto : ps s.a q = to_ at *
            have HTo := hid hto
            clear hto
            have HBd : Hid (Below wr.heap.size wr wr.drew) := (Below.refl _ _).drew
            have hX2 : (x - s.n) * ((s.st : Int) + 1) = X := hX
            have hdd : X + (to_ - s.place) = dd := HDe.symm
            have hwrl : (wrP dd s.bias).length ≤ 11 := wr_short 10 _ dd 36 s.bias d1 (by omega)
            have HAd := hid (fun (W : World) (h : By B W u5 s.out) => adel_any h (by have := HSol.out; omega) dd s.bias d1 (by omega) (by omega) (by omega))
            have HAda : Hid (∀ W, Calls Try.prog 19 #[.int .i64 dd, .int .i64 ((s.st : Int) + 1), .bool ((j : Int) == 0)] W fun e w' => e = .returned (.int .i64 (adP dd.toNat (s.st + 1) (s.i == 0) : Nat)) ∧ w' = W) := by
              refine hid (fun W => ?_)
              have e1 : (dd.toNat : Int) = dd := Int.toNat_of_nonneg d1
              have hc := HSi.out
              by_cases hk : j = 0
              · have h1 := adapt_t dd.toNat (s.st + 1) W (by omega) (by omega) (by omega)
                rw [e1] at h1
                rw [hc, hk]
                exact h1
              · have h1 := adapt_f dd.toNat (s.st + 1) W (by omega) (by omega) (by omega)
                rw [e1] at h1
                have e2 : ((j : Int) == 0) = false := by simpa using hk
                have e3 : (s.i == 0) = false := by rw [hc]; simpa using hk
                rw [e2, e3]
                exact h1
            clear HDd HDe hX
            generalize adP dd.toNat (s.st + 1) (s.i == 0) = nb at *
            have hwx : IntKind.i64.wrap x = x := by rw [IntKind.wrap_i64]; omega
            have H7 := hid (And.intro (HEWr.out.step HBd.out) (HRK.out.step HBd.out))
            go_wp2_with fail
            go_region_held3 (fun w' => w'.cell? ⟨bb, off + q, none⟩ = some (.int .i32 x))
              (first | exact hcl.out _ (Below.refl _ _) | exact hcl.out _ HBd.out)
              (first | (go_at_call 26; refine (HAh.out _ HBd.out).mono ?_; rintro e w7 ⟨rfl, rfl⟩))
            go_wp2_with fail
            refine (HAd.out _ H7.out.1.by_).mono ?_
            rintro e w8 ⟨v8, rfl, hby, hgr⟩
            have H8 := hid (And.intro (H7.out.1.put hgr hby) (H7.out.2.put hgr))
            clear hby hgr
            go_wp2_with fail
            refine (HAda.out _).mono ?_
            rintro e w9 ⟨rfl, rfl⟩
            obtain ⟨Rt, r1, r2, r3⟩ := H8.out.1.tal
            have HTa := hid (tadd_any (cap := k + 1) r1 r2 q HAl.out 1 (by rw [haq2.out]; omega) (k + 1) r3)
            rw [haq2.out] at HTa
            clear r1 r2 r3
            go_wp2_with fail
            refine HTa.out.mono ?_
            rintro e w10 ⟨rfl, h1, h2⟩
            have H10 : Hid (EW w bt B (s.a.set q 1) (k + 1) v8 (s.out ++ wrP dd s.bias) w10 ∧ RK bt v8 g (ordL zs) T w10) := ⟨H8.out.1.add h2 h1, H8.out.2.add h2⟩
            clear h1 h2
            go_wp2_with fail
            go_roundg (m - (j + 1))
            case measure => rw [HG.out]; omega
            case rel => exact ⟨j + 1, s.st + 1, x, to_ + 1, nb, by go_num, by go_num, rfl, by go_num, rfl, by omega, rfl, s.step zs q, HFo.out.symm, HNx.out, by rw [HStp.out], by rw [HStp.out], by rw [HStp.out], by rw [HStp.out], by rw [HStp.out, HSi.out], by rw [HStp.out]; have := HSol.out; simp only [List.length_append]; omega, by rw [HStp.out]; exact H10.out.1, .inr ⟨g, T, rfl, H10.out.2⟩⟩
          · have e : j = m := by omega
            subst e
            obtain ⟨s, hs, _, rfl, rfl, rfl, rfl, _, _, hEW, _⟩ := H.out
            have HEn : Hid (s.out = encP zs) := by
              show _ = _
              rw [hs, ← HML.out, List.take_length]; rfl
            have hcv := conv_byt hEW.by_ (by rw [HEn.out]; exact HOut.out)
            have HEWe := hid hEW
            rw [HEn.out] at hcv
            clear hs hEW H
            have z0' : ¬ (j : Int) < (j : Int) := by omega
            go_wp2_with fail
            go_ret2
            exact ⟨rfl, HEWe.out.ok⟩
end Pu
end Go.Proofs.Ytoknfhjclpdihaa
