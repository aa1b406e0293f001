import Derived.Test.YtpegpagdhaijjaaOrd17
namespace Go.Proofs.Ytpegpagdhaijjaa
namespace Od
open Go.RowKit

/-- append(out, l...) onto an empty slice of the call's own. -/
theorem app_all {ops : Array Oper} {rest : List Oper} {o : Oper} {a : Act} {Q : Exit → Act → World → Prop} (hgd : o.guard = none) (s x : Operand)
    (ho : o.op = .call { callee := .builtin .append, args := #[s, x], argTypes := #[27, 27] }) (W : World) (B : Nat) (v : Value) (ad : Addr) (cap : Nat) (xs zs : List Int) (hs : a.eval s = v) (hx : a.eval x = .slice (some ad) zs.length cap)
    (hown : W.ownsRow B 3 1 v xs.length (ivs .i64 xs)) (hsv : isSome v) (hz : SlP .i64 W (some ad) cap zs) (hn : xs.length + zs.length ≤ 1000000000) (hB : B ≤ W.heap.size)
    (h : ∀ v' w', w'.ownsRow B 3 1 v' (xs ++ zs).length (ivs .i64 (xs ++ zs)) → isSome v' → Below B W w' → (∀ k, k < W.heap.size → v.ownBlock ≠ some k → w'.heap[k]? = W.heap[k]?) → wpList Try.prog ops Q rest (a.put o.dst v') w') :
    wpList Try.prog ops Q (o :: rest) a W := by
  obtain ⟨i0, hi, hz0, hz1, hz2⟩ := info_parts Try.info_i64
  refine wpList_append_own_at _ hgd s x 27 ho B 3 i0 (.int .i64 0) 1 8 Try.underlying27 hi hz0 hz1 hz2 rfl (by decide) v xs.length (ivs .i64 xs) hs hown ad zs.length cap (ivs .i64 zs) hx (by rw [ivs_len]; omega)
    (fun j u hj => ?_) (fun u hu => by simp [ivs] at hu; obtain ⟨z, _, rfl⟩ := hu; rfl) (by unfold maxLen; omega) (by omega) hB (fun v' w' h1 h2 h3 _ => h v' w' ?_ ?_ (below_of_grown h2 B hB (fun k e => (hown.lt k e).1)) (fun k hk hne => h2.block k hk (fun e => hne e.symm)))
  · have hlt : j < zs.length := by
      have := (List.getElem?_eq_some_iff.1 hj).1
      rwa [ivs_len] at this
    obtain ⟨b, off, e, hb, hc⟩ := hz.at_ j hlt
    simp at e
    subst e
    have e2 : (⟨b, off, none⟩ : Addr).add j = ⟨b, off + j, none⟩ := by unfold Addr.add; split <;> simp_all
    rw [e2, hc]
    simp [ivs, hlt] at hj
    rw [hj]
  · have e : ivs .i64 xs ++ ivs .i64 zs = ivs .i64 (xs ++ zs) := by simp [ivs]
    rw [List.length_append, ← e]; exact h1
  · rcases h1.2 with ⟨e1, _⟩ | ⟨g, cap', cur, rfl, _⟩
    · rw [(h3.1 e1).1] at hsv; exact hsv.elim
    · trivial

set_option maxRecDepth 100000 in
set_option maxHeartbeats 4000000 in
theorem rsort_any {w : World} {v : Value} {zs : List Int} (hS : Sn .i64 w v zs) (hn : zs.length ≤ 1000000) :
    Calls Try.prog 12 #[v] w fun e w' => ∃ v', e = .returned v' ∧ Sn .i64 w' v' (srt clsP zs) ∧ Below w.heap.size w w' := by
  obtain ⟨ad, cap, rfl, hS⟩ := hS
  have HS := hid hS
  clear hS
  have HO : Hid ((w.alloc (.cells #[] 3)).ownsRow w.heap.size 3 1 (.slice (some ⟨w.heap.size, 0, none⟩) 0 0) 0 []) := World.ownsRow_made w #[] 0 (Nat.le_refl _) (by unfold maxLen; omega) rfl
  have hok := hid ((Ok.start w).alloc (o := .cells #[] 3))
  have HCl := hid (fun r w => rcls_any r w)
  go_enter Try.func12, Try.ntmps12
  go_wp2_with (at_builtin; refine app_all rfl (.tmp 11) (.tmp 12) rfl _ w.heap.size _ ad cap [] zs rfl rfl HO.out trivial (HS.out.step ((Below.refl _ _).alloc (Nat.le_refl _) _)) (by simp; omega) hok.out.2 (fun v' w1 h1 h2 h3 _ => ?_); obtain ⟨g, capo, T, rfl, hcapo, hgo, hBo⟩ := own_blq h1 h2; have H1 : Hid (Blq w1 g zs T ∧ w.heap.size ≤ g ∧ Ok w.heap.size w w1 ∧ zs.length ≤ capo) := ⟨hBo, hgo, ok_below h3 hok.out, hcapo⟩; clear h1 h2 h3 hcapo hgo hBo)
  clear HO hok HS
  have HO : Hid ((w1.alloc (.cells #[] 3)).ownsRow w1.heap.size 3 1 (.slice (some ⟨w1.heap.size, 0, none⟩) 0 0) 0 []) := World.ownsRow_made w1 #[] 0 (Nat.le_refl _) (by unfold maxLen; omega) rfl
  have hok := hid ((Ok.start w1).alloc (o := .cells #[] 3))
  go_loopg [4, 5] zs.length (fun gg vo vi wr => ∃ k : Nat, vi = .int .i64 k ∧ k ≤ zs.length ∧ gg = zs.length - k ∧ Hid (wr.ownsRow w1.heap.size 3 1 vo k (ivs .i64 ((zs.take k).map clsP)) ∧ Ok w1.heap.size w1 wr ∧ isSome vo))
  case atStart => exact ⟨0, rfl, Nat.zero_le _, rfl, HO.out, hok.out, trivial⟩
  case round =>
    obtain ⟨k, rfl, hk, hg, H⟩ := hrel
    have HG := hid hg
    clear hg HO hok
    by_cases hlt : k < zs.length
    · have hc := (H1.out.1.step (H.out.2.1.1)).cell k zs[k] (List.getElem?_eq_getElem hlt)
      have HT : Hid (ivs .i64 ((zs.take (k + 1)).map clsP) = ivs .i64 ((zs.take k).map clsP) ++ [.int .i64 (clsP zs[k])]) := by
        show _ = _; rw [List.take_succ_eq_append_getElem hlt, List.map_append, List.map_cons, List.map_nil, ivs_snoc]
      have HC1 := hid (fun W => HCl.out zs[k] W)
      generalize clsP zs[k] = cz at *
      generalize zs[k] = z at *
      go_wp2_with (first | (go_at_call 41; refine (HC1.out _).mono ?_; rintro e w2 ⟨rfl, hb2⟩; have H2 : Hid (w2.ownsRow w1.heap.size 3 1 _ k _ ∧ Ok w1.heap.size w1 w2 ∧ isSome _) := ⟨Uc.own_below H.out.1 hb2, H.out.2.1.step hb2, H.out.2.2⟩; clear hb2) | (at_builtin; refine app_i64 rfl (.tmp 21) (.tmp 27) rfl w2 w1.heap.size k _ _ cz rfl w2.heap.size rfl rfl H2.out.1 (by omega) H2.out.2.1.2 (fun v' w' h1 h2 => ?_)))
      have H3 : Hid (w'.ownsRow w1.heap.size 3 1 v' (k + 1) (ivs .i64 ((zs.take (k + 1)).map clsP)) ∧ Ok w1.heap.size w1 w' ∧ isSome v') := ⟨by rw [HT.out]; exact h1, ok_below h2 H2.out.2.1, own_some h1 (Nat.succ_pos k)⟩
      clear h1 h2
      go_roundg (zs.length - (k + 1))
      case measure => rw [HG.out]; omega
      case rel => exact ⟨k + 1, by go_num, by omega, rfl, H3.out⟩
    · have e : k = zs.length := by omega
      subst e
      obtain ⟨gc, capc, Tc, hvo, hcapc, HR⟩ : ∃ gc capc Tc, u4 = .slice (some ⟨gc, 0, none⟩) zs.length capc ∧ zs.length ≤ capc ∧ Hid (RsW w g gc T Tc zs wr) := by
        obtain ⟨h1, h2, h3⟩ := H.out
        rw [List.take_length] at h1
        have h1' : wr.ownsRow w1.heap.size 3 1 u4 (zs.map clsP).length (ivs .i64 (zs.map clsP)) := by rw [List.length_map]; exact h1
        obtain ⟨gc, capc, Tc, e1, e2, e3, e4⟩ := own_blq h1' h3
        rw [List.length_map] at e1 e2
        have := H1.out.1.lt
        have hs := H1.out.2.2.1.1.size
        refine ⟨gc, capc, Tc, e1, e2, by omega, ⟨H1.out.2.1, by omega⟩, H1.out.1.step h2.1, e4, H1.out.2.2.1.step h2.1⟩
      subst hvo
      clear H HG
      go_wp2_with fail
      go_loopg [6, 7, 8, 9] zs.length (fun gg vk _ _ _ wr => ∃ k : Nat, vk = .int .i64 k ∧ k ≤ zs.length ∧ gg = zs.length - k ∧ Hid (RsW w g gc T Tc (itp clsP k zs) wr))
      case atStart => exact ⟨0, rfl, Nat.zero_le _, rfl, HR.out⟩
      case round =>
        clear HR
        obtain ⟨k, rfl, hk, hg, H⟩ := hrel
        have HG := hid hg
        clear hg
        have HLn := hid ((sw_itp clsP k zs).len)
        have HIt := hid (itp_succ clsP k zs)
        by_cases hlt : k < zs.length
        · generalize itp clsP k zs = cur at *
          obtain ⟨x0, l0, rfl⟩ : ∃ x l, cur = x :: l := by
            cases cur with
            | nil => have := HLn.out; simp at this; omega
            | cons x l => exact ⟨x, l, rfl⟩
          go_wp2_with fail
          go_loopg [7, 8, 9] zs.length (fun g2 vi _ _ wr => ∃ i : Nat, vi = .int .i64 i ∧ 1 ≤ i ∧ i ≤ zs.length ∧ g2 = zs.length - i + 1 ∧ Hid (∃ A x rest, A.length + 1 = i ∧ RsW w g gc T Tc (A ++ x :: rest) wr ∧ A ++ bub clsP x rest = bub clsP x0 l0 ∧ (A ++ x :: rest).length = zs.length))
          case atStart => exact ⟨1, rfl, Nat.le_refl _, by omega, by omega, [], x0, l0, rfl, H.out, rfl, HLn.out⟩
          case round =>
            clear H
            obtain ⟨i, rfl, hi1, hi2, hg2, H2⟩ := hrel
            have HG2 := hid hg2
            clear hg2
            by_cases hlt2 : i < zs.length
            · obtain ⟨ip, rfl⟩ : ∃ ip, i = ip + 1 := ⟨i - 1, by omega⟩
              obtain ⟨A, x, y, rest, H3⟩ : ∃ A x y rest, Hid (A.length = ip ∧ RsW w g gc T Tc (A ++ x :: y :: rest) wr ∧ A ++ bub clsP x (y :: rest) = bub clsP x0 l0 ∧ (A ++ x :: y :: rest).length = zs.length) := by
                obtain ⟨A, x, rest, e1, e2, e3, e4⟩ := H2.out
                cases rest with
                | nil => simp at e4; omega
                | cons y rest => exact ⟨A, x, y, rest, by omega, e2, e3, e4⟩
              clear H2
              have k1 : (A ++ x :: y :: rest)[ip]? = some x := by rw [← H3.out.1]; simp
              have k2 : (A ++ x :: y :: rest)[ip + 1]? = some y := by rw [← H3.out.1]; simp
              have c1 := H3.out.2.1.o.cell ip x k1
              have c2 := H3.out.2.1.o.cell (ip + 1) y k2
              have d1 := H3.out.2.1.c.cell ip (clsP x) (by rw [List.getElem?_map, k1]; rfl)
              have d2 := H3.out.2.1.c.cell (ip + 1) (clsP y) (by rw [List.getElem?_map, k2]; rfl)
              have c1d : wr.drew.cell? ⟨g, ip, none⟩ = some (.int .i64 x) := c1
              have c2d : wr.drew.cell? ⟨g, ip + 1, none⟩ = some (.int .i64 y) := c2
              have d1d : wr.drew.cell? ⟨gc, ip, none⟩ = some (.int .i64 (clsP x)) := d1
              have d2d : wr.drew.cell? ⟨gc, ip + 1, none⟩ = some (.int .i64 (clsP y)) := d2
              have HW := hid H3.out.2.1
              clear k1 k2
              have z1 : (ip : Int) + 1 < (zs.length : Int) := by omega
              have z2 : (ip : Int) < (zs.length : Int) := by omega
              have hwp : IntKind.i64.wrap (ip : Int) = (ip : Int) := by rw [IntKind.wrap_i64]; omega
              have p0 : (0 : Int) ≤ (ip : Int) + 1 := by omega
              have e0 : ((ip : Int) + 1).toNat = ip + 1 := by omega
              have hy0 := (cls_bd y).1
              have hne := HW.out.ne
              have hne' := Ne.symm hne
              have fg := fun k => HW.out.o.frozen k
              have fc := fun k => HW.out.c.frozen k
              by_cases hc : 0 < clsP y ∧ clsP y < clsP x
              · have HSW := hid ((HW.out.swap ip (ip + 1) H3.out.1.symm (by rw [H3.out.1])).drew.drew)
                have HBub : Hid (A ++ [y] ++ bub clsP x rest = bub clsP x0 l0) := by
                  show _ = _
                  rw [← H3.out.2.2.1]
                  simp only [bub]
                  rw [if_pos hc]
                  simp
                have hc1 : ¬ clsP y = 0 := by omega
                have hc2 : clsP y < clsP x := hc.2
                have hc3 : (clsP y != 0) = true := by simpa using hc1
                clear hc hy0
                generalize clsP y = cy at *
                generalize clsP x = cx at *
                go_wp2_with fail
                go_region
                go_wp2_with fail
                go_region
                go_wp2_with fail
                go_roundg (zs.length - (ip + 1 + 1) + 1)
                case measure => rw [HG2.out]; omega
                case rel => exact ⟨ip + 1 + 1, by go_num, by omega, by omega, rfl, A ++ [y], x, rest, by rw [List.length_append, H3.out.1]; rfl, by simpa using HSW.out, HBub.out, by have := H3.out.2.2.2; simp at this ⊢; omega⟩
              · have HSW := hid HW.out.drew
                have HBub : Hid (A ++ [x] ++ bub clsP y rest = bub clsP x0 l0) := by
                  show _ = _
                  rw [← H3.out.2.2.1]
                  simp only [bub]
                  rw [if_neg hc]
                  simp
                by_cases hc1 : clsP y = 0
                · have hc3 : (clsP y != 0) = false := by simpa using hc1
                  clear hc hy0
                  rw [hc1] at d2 d2d
                  clear hc3 hc1
                  generalize clsP x = cx at *
                  go_wp2_with fail
                  go_region
                  go_wp2_with fail
                  go_roundg (zs.length - (ip + 1 + 1) + 1)
                  case measure => rw [HG2.out]; omega
                  case rel => exact ⟨ip + 1 + 1, by go_num, by omega, by omega, rfl, A ++ [x], y, rest, by rw [List.length_append, H3.out.1]; rfl, by simpa using HSW.out, HBub.out, by have := H3.out.2.2.2; simp at this ⊢; omega⟩
                · have hc3 : (clsP y != 0) = true := by simpa using hc1
                  have hc2 : ¬ clsP y < clsP x := by omega
                  have hc4 : decide (clsP y < clsP x) = false := decide_eq_false hc2
                  clear hc hy0
                  generalize clsP y = cy at *
                  generalize clsP x = cx at *
                  go_wp2_with fail
                  go_region
                  go_wp2_with fail
                  go_roundg (zs.length - (ip + 1 + 1) + 1)
                  case measure => rw [HG2.out]; omega
                  case rel => exact ⟨ip + 1 + 1, by go_num, by omega, by omega, rfl, A ++ [x], y, rest, by rw [List.length_append, H3.out.1]; rfl, by simpa using HSW.out, HBub.out, by have := H3.out.2.2.2; simp at this ⊢; omega⟩
            · have H3 : Hid (RsW w g gc T Tc (itp clsP (k + 1) zs) wr) := by
                obtain ⟨A, x, rest, e1, e2, e3, e4⟩ := H2.out
                have : rest = [] := List.eq_nil_of_length_eq_zero (by simp at e4; omega)
                subst this
                rw [HIt.out]
                show RsW w g gc T Tc (bub clsP x0 l0) wr
                rw [← e3]; exact e2
              clear H2
              go_wp2_with fail
              go_roundg (zs.length - (k + 1))
              case measure => rw [HG.out]; omega
              case rel => exact ⟨k + 1, by go_num, by omega, rfl, H3.out⟩
        · have e : k = zs.length := by omega
          have HE : Hid (itp clsP k zs = srt clsP zs) := by show _ = _; rw [e]; exact itp_all clsP (fun x => (cls_bd x).1) zs
          have HLe : Hid ((srt clsP zs).length = zs.length) := (sw_srt clsP zs).len
          go_wp2_with fail
          go_ret
          have h1 := H.out
          rw [HE.out] at h1
          refine ⟨_, rfl, ?_, h1.ok.1⟩
          have h2 := h1.o.sl capo (by rw [HLe.out]; exact H1.out.2.2.2)
          rw [HLe.out] at h2
          exact h2
end Od
end Go.Proofs.Ytpegpagdhaijjaa
