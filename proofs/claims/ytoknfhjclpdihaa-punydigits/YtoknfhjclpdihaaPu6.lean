import Derived.Test.YtoknfhjclpdihaaPu5
namespace Go.Proofs.Ytoknfhjclpdihaa
namespace Pu
open Go.RowKit Od

theorem nanr_any (a : Int) (w : World) : Calls Try.prog 43 #[.int .i32 a] w fun e w' => e = .returned (.bool false) ∧ w' = w := by
  go_enter Try.func43, Try.ntmps43
  go_wp2
  go_ret
  exact ⟨by simp, rfl⟩
set_option maxHeartbeats 1000000 in
theorem cmpr_any (a b : Int) (w : World) : Calls Try.prog 37 #[.int .i32 a, .int .i32 b] w fun e w' => e = .returned (.int .i64 (cmpI a b)) ∧ w' = w := by
  have HE : Hid (cmpI a b = if a < b then -1 else if b < a then 1 else 0) := rfl
  by_cases h1 : a < b
  · go_enter Try.func37, Try.ntmps37
    go_wp2_with (go_at_call 43; refine (nanr_any _ _).mono ?_; rintro e w1 ⟨rfl, rfl⟩)
    go_ret
    exact ⟨ret_int (by rw [HE.out, if_pos h1]), rfl⟩
  · by_cases h2 : b < a
    · go_enter Try.func37, Try.ntmps37
      go_wp2_with (go_at_call 43; refine (nanr_any _ _).mono ?_; rintro e w1 ⟨rfl, rfl⟩)
      go_ret
      exact ⟨ret_int (by rw [HE.out, if_neg (by omega), if_pos h2]), rfl⟩
    · go_enter Try.func37, Try.ntmps37
      go_wp2_with (go_at_call 43; refine (nanr_any _ _).mono ?_; rintro e w1 ⟨rfl, rfl⟩)
      go_ret
      exact ⟨ret_int (by rw [HE.out, if_neg (by omega), if_neg (by omega)]), rfl⟩

/-- The code point at a place. -/
def kyP (zs : List Int) (i : Int) : Int := if 0 ≤ i then zs.getD i.toNat 0 else 0
theorem ky_in {zs : List Int} {i : Int} (h : 0 < kyP zs i) : ∃ k : Nat, i = k ∧ ∃ hk : k < zs.length, kyP zs i = zs[k] := by
  unfold kyP at h ⊢
  split at h
  · rename_i h0
    refine ⟨i.toNat, by omega, ?_⟩
    by_cases hk : i.toNat < zs.length
    · refine ⟨hk, ?_⟩
      rw [if_pos h0, List.getD_eq_getElem?_getD, List.getElem?_eq_getElem hk]; rfl
    · rw [List.getD_eq_getElem?_getD, List.getElem?_eq_none (by omega)] at h
      exact absurd h (by decide)
  · omega
/-- The places of code points from 128 on. -/
def posL (zs : List Int) (k : Nat) : List Int := ((List.range k).filter (fun i => decide (128 ≤ zs.getD i 0))).map Int.ofNat
theorem posL_succ (zs : List Int) (k : Nat) : posL zs (k + 1) = posL zs k ++ if 128 ≤ zs.getD k 0 then [(k : Int)] else [] := by
  unfold posL
  rw [List.range_succ, List.filter_append, List.map_append]
  congr 1
  by_cases h : 128 ≤ zs.getD k 0
  · rw [if_pos h, List.filter_cons_of_pos (by simpa using h)]; rfl
  · rw [if_neg h, List.filter_cons_of_neg (by simpa using h)]; rfl
theorem posL_len (zs : List Int) : ∀ k, (posL zs k).length ≤ k
  | 0 => by simp [posL]
  | k + 1 => by
    have := posL_len zs k
    rw [posL_succ, List.length_append]
    split <;> simp <;> omega
theorem posL_mem {zs : List Int} {k : Nat} {x : Int} (h : x ∈ posL zs k) : ∃ i : Nat, x = i ∧ i < k ∧ 128 ≤ zs.getD i 0 := by
  unfold posL at h
  obtain ⟨i, hi, rfl⟩ := List.mem_map.1 h
  rw [List.mem_filter, List.mem_range] at hi
  exact ⟨i, rfl, hi.1, of_decide_eq_true hi.2⟩

theorem own_blk {w : World} {B : Nat} {v : Value} {l : List Int} (h : w.ownsRow B 3 1 v l.length (ivs .i64 l)) (h0 : 0 < l.length) : ∃ g cap T, v = .slice (some ⟨g, 0, none⟩) l.length cap ∧ l.length ≤ cap ∧ B ≤ g ∧ Blk w g l T := by
  rcases h.2 with ⟨h1, h2⟩ | ⟨g, cap, cur, rfl, h2, h3, h4, h5, h6, h7⟩
  · omega
  · refine ⟨g, cap, cur.toList.drop l.length, rfl, h4, h2, ?_⟩
    show w.heap[g]? = _
    rw [h3]
    have e3 : (i32s l ++ cur.toList.drop l.length).toArray = cur := by
      have h10 : cur.toList.take l.length = i32s l := by simpa [ivs, i32s] using h7
      rw [← h10, List.take_append_drop]
    rw [e3]
theorem blk_sl {w : World} {b cap : Nat} {R : List Int} {T : List Value} (h : Blk w b R T) (hc : R.length ≤ cap) : Sl .i64 w (.slice (some ⟨b, 0, none⟩) R.length cap) R :=
  ⟨_, cap, rfl, hc, fun e => (by cases e), fun j hj => ⟨b, 0, rfl, h.lt, by rw [Nat.zero_add]; exact h.cell _ _ (List.getElem?_eq_getElem hj)⟩⟩

set_option maxHeartbeats 2000000 in
theorem byc1_any {W : World} {pb : Nat} {ao : Option Addr} {cap : Nat} {zs : List Int} (hx : W.cell? ⟨pb, 0, none⟩ = some (.slice ao zs.length cap)) (hS : SlP .i32 W ao cap zs) (x y : Int) (h1 : 0 < kyP zs x) (h2 : 0 < kyP zs y) :
    Calls Try.prog 36 #[.int .i64 x, .int .i64 y, .pointer (some ⟨pb, 0, none⟩)] W fun e w' => e = .returned (.int .i64 (cmpI (kyP zs x) (kyP zs y))) ∧ Below W.heap.size W w' := by
  obtain ⟨i, rfl, hi, e1⟩ := ky_in h1
  obtain ⟨j, rfl, hj, e2⟩ := ky_in h2
  rw [e1, e2]
  obtain ⟨g, off, rfl, hg, c1⟩ := hS.at_ i hi
  obtain ⟨g', off', e0, hg', c2⟩ := hS.at_ j hj
  have e3 : g = g' ∧ off = off' := by
    have := Option.some.inj e0
    injection this with a1 a2 _
    exact ⟨a1, a2⟩
  obtain ⟨rfl, rfl⟩ := e3
  have HM := hid (fun w a c => cmpr_any a c w)
  have z1 : (i : Int) < (zs.length : Int) := by omega
  have z2 : (j : Int) < (zs.length : Int) := by omega
  have HD : Hid (W.drew.cell? ⟨pb, 0, none⟩ = some (.slice (some ⟨g, off, none⟩) zs.length cap) ∧ W.drew.cell? ⟨g, off + i, none⟩ = some (.int .i32 zs[i]) ∧ W.drew.cell? ⟨g, off + j, none⟩ = some (.int .i32 zs[j])) := ⟨hx, c1, c2⟩
  have H0 : Hid (W.cell? ⟨pb, 0, none⟩ = some (.slice (some ⟨g, off, none⟩) zs.length cap) ∧ W.cell? ⟨g, off + i, none⟩ = some (.int .i32 zs[i]) ∧ W.cell? ⟨g, off + j, none⟩ = some (.int .i32 zs[j])) := ⟨hx, c1, c2⟩
  have HB : Hid (Below W.heap.size W W.drew) := (Below.refl _ _).drew
  clear hS h1 h2 e1 e2 e0 hg hg' c1 c2 hx
  generalize zs[i] = a at *
  generalize zs[j] = b at *
  generalize zs.length = n at *
  go_enter Try.func36, Try.ntmps36
  go_wp2_with fail
  go_region_held3 (fun w' => w'.cell? ⟨pb, 0, none⟩ = some (.slice (some ⟨g, off, none⟩) n cap) ∧ w'.cell? ⟨g, off + i, none⟩ = some (.int .i32 a) ∧ w'.cell? ⟨g, off + j, none⟩ = some (.int .i32 b))
    (first | exact HD.out | exact H0.out)
    (first | (go_at_call 37; refine (HM.out _ _ _).mono ?_; rintro e w' ⟨rfl, rfl⟩))
  all_goals go_wp2_with fail
  all_goals go_ret
  all_goals exact ⟨rfl, HB.out⟩

set_option maxHeartbeats 2000000 in
theorem isrt_nil (f : Value) (w : World) : Calls Try.prog 46 #[.slice none 0 0, .int .i64 0, .int .i64 0, f] w fun e w' => e = .returned (.tuple #[]) ∧ w' = w := by
  go_enter Try.func46, Try.ntmps46
  go_wp2_with fail
  go_loop [8] (fun i => i = .int .i64 1) (fun _ => 0)
  case atStart => rfl
  case round =>
    subst hrel
    go_wp2_with fail
    go_end0
    exact ⟨rfl, rfl⟩
set_option maxHeartbeats 2000000 in
theorem stab_nil (f : Value) (w : World) : Calls Try.prog 42 #[.slice none 0 0, .int .i64 0, f] w fun e w' => e = .returned (.tuple #[]) ∧ w' = w := by
  have HI := hid (fun w => isrt_nil f w)
  go_enter Try.func42, Try.ntmps42
  go_wp2_with fail
  go_loop [7, 8] (fun a b => a = .int .i64 0 ∧ b = .int .i64 20) (fun _ _ => 0)
  case atStart => exact ⟨rfl, rfl⟩
  case round =>
    obtain ⟨rfl, rfl⟩ := hrel
    go_wp2_with fail
    refine (HI.out _).mono ?_
    rintro e w1 ⟨rfl, rfl⟩
    go_wp2_with fail
    go_loop [6] (fun b => b = .int .i64 20) (fun _ => 0)
    case atStart => rfl
    case round =>
      subst hrel
      go_wp2_with fail
      go_end0
      exact ⟨rfl, rfl⟩
set_option maxHeartbeats 1000000 in
theorem sst_nil (f : Value) (w : World) : Calls Try.prog 35 #[.slice none 0 0, f] w fun e w' => e = .returned (.tuple #[]) ∧ w' = w := by
  have HI := hid (fun w => stab_nil f w)
  go_enter Try.func35, Try.ntmps35
  go_wp2_with fail
  refine (HI.out _).mono ?_
  rintro e w1 ⟨rfl, rfl⟩
  go_wp2_with fail
  go_end0
  exact ⟨rfl, rfl⟩

/-- A row of ints, made from a block on; or none. -/
def Rw (B : Nat) (w : World) (v : Value) (l : List Int) : Prop := (l = [] ∧ v = .slice none 0 0) ∨ ∃ g cap T, v = .slice (some ⟨g, 0, none⟩) l.length cap ∧ l.length ≤ cap ∧ B ≤ g ∧ Blk w g l T
/-- The places in the order of their code points. -/
def ordL (zs : List Int) : List Int := srt (kyP zs) (posL zs zs.length)

set_option maxRecDepth 100000 in
set_option maxHeartbeats 4000000 in
theorem bycode_any {w : World} {v : Value} {zs : List Int} (hS : Sl .i32 w v zs) (hz : ∀ z ∈ zs, 0 ≤ z ∧ z ≤ 1114111) (hn : zs.length ≤ 1000) :
    Calls Try.prog 25 #[v] w fun e w' => ∃ v', e = .returned v' ∧ Rw w.heap.size w' v' (ordL zs) ∧ Below w.heap.size w w' := by
  obtain ⟨ao, cap, rfl, hS⟩ := hS
  have HS := hid hS
  have HZ := hid hz
  obtain ⟨w1, hw1⟩ : ∃ w1, w1 = w.alloc (.cells #[.slice ao zs.length cap] 22) := ⟨_, rfl⟩
  have hb1 : Below w.heap.size w w1 := by rw [hw1]; exact (Below.refl _ _).alloc (Nat.le_refl _) _
  have hbx : w1.cell? ⟨w.heap.size, 0, none⟩ = some (.slice ao zs.length cap) := by
    rw [hw1]; unfold World.cell?; rw [heap_new]; rfl
  have hlt : w.heap.size < w1.heap.size := by rw [hw1]; simp
  have HB1 := hid (And.intro hb1 (And.intro hbx hlt))
  generalize hlen : zs.length = len at *
  have HLn := hid hlen
  have HW := hid hw1
  clear hS hz hb1 hbx hlt hlen
  go_enter Try.func25, Try.ntmps25
  go_wp2_with fail
  rw [← HW.out]
  go_loopg [3, 8] len (fun gg vo vi wr => ∃ k : Nat, vi = .int .i64 k ∧ k ≤ len ∧ gg = len - k ∧ Hid (wr.ownsRow w1.heap.size 3 1 vo (posL zs k).length (ivs .i64 (posL zs k)) ∧ Ok w1.heap.size w1 wr ∧ (posL zs k = [] → vo = .slice none 0 0)))
  case atStart => exact ⟨0, rfl, Nat.zero_le _, rfl, World.ownsRow_nil _ _ _ _, Ok.start w1, fun _ => rfl⟩
  case round =>
    obtain ⟨k, rfl, hk, hg, H⟩ := hrel
    have HG := hid hg
    clear hg
    by_cases hlt : k < len
    · have hlx : k < zs.length := by rw [HLn.out]; exact hlt
      obtain ⟨bb, off, rfl, hb, c1⟩ := HS.out.at_ k hlx
      have d1 := ((HB1.out.1.trans (H.out.2.1.1.mono HB1.out.1.size)).cell (p := ⟨bb, off + k, none⟩) hb).trans c1
      have HP := hid (posL_succ zs k)
      rw [List.getD_eq_getElem?_getD, List.getElem?_eq_getElem hlx, Option.getD_some] at HP
      have z1 : (k : Int) < (len : Int) := by omega
      have hpl := posL_len zs k
      clear c1
      generalize zs[k] = x at *
      clear hlx
      by_cases hx : 128 ≤ x
      · rw [if_pos hx] at HP
        generalize hpn : (posL zs k).length = pn at *
        have HPn := hid hpn
        clear hpn
        go_wp2_with (at_builtin; refine app_i64 rfl (.tmp 15) (.tmp 17) rfl wr w1.heap.size pn _ (ivs .i64 (posL zs k)) (k : Int) rfl wr.heap.size rfl rfl H.out.1 (by omega) H.out.2.1.2 (fun v2 w2 h3 h4 => ?_))
        have H2 : Hid (w2.ownsRow w1.heap.size 3 1 v2 (posL zs (k + 1)).length (ivs .i64 (posL zs (k + 1))) ∧ Ok w1.heap.size w1 w2 ∧ (posL zs (k + 1) = [] → v2 = .slice none 0 0)) := by
          rw [HP.out]
          refine ⟨by rw [ivs_snoc, List.length_append, HPn.out]; exact h3, ok_below h4 H.out.2.1, fun e => ?_⟩
          simp at e
        clear h3 h4
        go_roundg (len - (k + 1))
        case measure => rw [HG.out]; omega
        case rel => exact ⟨k + 1, by go_num, by omega, rfl, H2.out⟩
      · rw [if_neg hx, List.append_nil] at HP
        have hx2 : decide (128 ≤ x) = false := decide_eq_false hx
        go_wp2_with fail
        go_roundg (len - (k + 1))
        case measure => rw [HG.out]; omega
        case rel => exact ⟨k + 1, by go_num, by omega, rfl, by rw [HP.out]; exact H.out⟩
    · have e : k = len := by omega
      subst e
      have z1 : ¬ (k : Int) < (k : Int) := by omega
      have HO : Hid (ordL zs = srt (kyP zs) (posL zs k)) := by show _ = _; unfold ordL; rw [HLn.out]
      by_cases hp : posL zs k = []
      · have hv := H.out.2.2 hp
        have HE : Hid (ordL zs = []) := by show _ = _; rw [HO.out, hp]; rfl
        have HOk := hid H.out.2.1
        subst hv
        clear H
        go_wp2_with fail
        refine (sst_nil _ _).mono ?_
        rintro e w2 ⟨rfl, rfl⟩
        go_wp2_with fail
        go_ret
        exact ⟨_, rfl, .inl ⟨HE.out, rfl⟩, HB1.out.1.trans (HOk.out.1.mono HB1.out.1.size)⟩
      · have hpl : 0 < (posL zs k).length := List.length_pos_iff.2 hp
        obtain ⟨g, cp, T, rfl, hcp, hgl, hB⟩ := own_blk H.out.1 hpl
        have hC : Cmp (kyP zs) (fun W => Below w1.heap.size w1 W) g #[.pointer (some ⟨w.heap.size, 0, none⟩)] := by
          refine ⟨fun W x y hx hy hW => ?_, fun W W' hW ha => hW.trans (ha.below hW.size hgl)⟩
          have hbx := (hW.cell (p := ⟨w.heap.size, 0, none⟩) HB1.out.2.2).trans HB1.out.2.1
          rw [← HLn.out] at hbx
          exact byc1_any hbx (HS.out.step (HB1.out.1.trans (hW.mono HB1.out.1.size))) x y hx hy
        have hpos : ∀ x ∈ posL zs k, 0 < kyP zs x := fun x hx => by
          obtain ⟨i, rfl, _, h2⟩ := posL_mem hx
          unfold kyP
          rw [if_pos (by omega), Int.toNat_natCast]; omega
        have hl5 := posL_len zs k
        have HSo := hid (sstf_any wr g 0 cp (posL zs k).length hC [] (posL zs k) [] T (by simpa using hB) H.out.2.1.1 rfl rfl (by omega) hpos)
        have HOk := hid H.out.2.1
        have HC := hid (And.intro hcp hgl)
        have hls : (srt (kyP zs) (posL zs k)).length = (posL zs k).length := (sw_srt (kyP zs) _).len
        have HLs := hid hls
        clear H hC hpos hB hls hp hpl hcp hgl
        generalize (posL zs k).length = pn at *
        go_wp2_with fail
        refine HSo.out.mono ?_
        rintro e w2 ⟨rfl, h3, h4⟩
        have H2 : Hid (Blk w2 g (srt (kyP zs) (posL zs k)) T ∧ Below w1.heap.size w1 w2) := ⟨by simpa using h3, HOk.out.1.trans (h4.below HOk.out.1.size HC.out.2)⟩
        clear h3 h4
        go_wp2_with fail
        go_ret
        refine ⟨_, rfl, ?_, HB1.out.1.trans (H2.out.2.mono HB1.out.1.size)⟩
        rw [HO.out]
        exact .inr ⟨g, cp, T, by rw [HLs.out]; rfl, by rw [HLs.out]; exact HC.out.1, Nat.le_trans HB1.out.1.size HC.out.2, H2.out.1⟩
end Pu
end Go.Proofs.Ytoknfhjclpdihaa
