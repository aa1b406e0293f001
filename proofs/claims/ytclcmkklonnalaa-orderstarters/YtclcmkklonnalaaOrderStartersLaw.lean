/-
  For every slice l of runes the law OrderStarters returns true, and l reads behind the call as it read before. No condition.
-/
import Derived.Test.YtclcmkklonnalaaRows
import Derived.Test.YtclcmkklonnalaaOrd20x22
import Derived.WalkKit
import Derived.ProofKit
import Derived.OpenShut
import Derived.ShutString
import Derived.ChangeOld
import Derived.Below
namespace Go.Proofs.Ytclcmkklonnalaa.orderStarters
open Go.ChangeShapes Go.WideShapes Go.ChangeAt Go.RowKit
open Go.ChangeMaps (open_string shut_string)
set_option linter.unusedVariables false

theorem own : ownKnob Try.prog.godebug = none := by kernel_rfl
theorem laidOut : laidOutB Try.prog = true := by kernel_rfl

/-- WHAT THE WALK IS TOLD OF A SLICE OF INTEGERS THAT CAME IN: it is nil; or it leads to a row of 'cap' cells, the numbers 'zs' (the first 'len' are its elements, the rest its spare room), each fitting its kind. -/
def IsRow (k : IntKind) (w : World) (a : Option Addr) (len cap : Nat) (zs : List Int) : Prop :=
  (a = none ∧ len = 0 ∧ cap = 0 ∧ zs = []) ∨
  ∃ x, a = some x ∧ len ≤ cap ∧ cap ≤ maxLen ∧ zs.length = cap ∧ (∀ i, i < zs.length → w.cell? (x.add i) = some (.int k (zs.getD i 0))) ∧ ∀ n ∈ zs, (Lit.int k n).wf = true

open Od in
/-- What the law's loops keep. -/
structure LS (w : World) (b : Nat) (a0 : Option Addr) (cap0 : Nat) (zs : List Int) (ag : Option Addr) (cg : Nat) (ap : Option Addr) (W : World) : Prop where
  ok : Ok w.heap.size w W
  bk : Bk W b
  l : SlP .i32 W a0 cap0 zs
  g : SlP .i32 W ag cg (srt clsP zs)
  p : PsP W ap (runsP clsP zs)
open Od in
theorem LS.step {w : World} {b : Nat} {a0 : Option Addr} {cap0 : Nat} {zs : List Int} {ag : Option Addr} {cg : Nat} {ap : Option Addr} {W W' : World} (h : LS w b a0 cap0 zs ag cg ap W) (hb : Below W.heap.size W W') : LS w b a0 cap0 zs ag cg ap W' :=
  ⟨h.ok.step hb, h.bk.step hb, h.l.step hb, h.g.step hb, h.p.step hb⟩
/-- The law's copy of a run. -/
def BX (W : World) (bx f t : Nat) : Prop := bx < W.heap.size ∧ W.cell? ⟨bx, 0, none⟩ = some (.int .i64 (f : Int)) ∧ W.cell? ⟨bx, 1, none⟩ = some (.int .i64 (t : Int))
theorem BX.step {W W' : World} {bx f t : Nat} (h : BX W bx f t) (hb : Below W.heap.size W W') : BX W' bx f t := ⟨Nat.lt_of_lt_of_le h.1 hb.size, (hb.cell (p := ⟨bx, 0, none⟩) h.1).trans h.2.1, (hb.cell (p := ⟨bx, 1, none⟩) h.1).trans h.2.2⟩
theorem BX.new (W : World) (f t : Nat) : BX (W.alloc (.cells #[.int .i64 (f : Int), .int .i64 (t : Int)] 36)) W.heap.size f t := by
  have hb := Od.heap_new W (.cells #[.int .i64 (f : Int), .int .i64 (t : Int)] 36)
  exact ⟨by simp, by simp only [World.cell?, hb]; rfl, by simp only [World.cell?, hb]; rfl⟩
open Od in
set_option maxHeartbeats 8000000 in
set_option maxRecDepth 100000 in
theorem walk (a0 : Option Addr) (len0 cap0 : Nat) (z0 : List Int) (w : World) (w0 : IsRow .i32 w a0 len0 cap0 z0) :
    Calls Try.prog 5 #[.slice a0 len0 cap0] w fun e w' => e = .returned (.bool true) ∧ Below w.heap.size w w' := by
  obtain ⟨hlen, hS, hZ⟩ := row_sl w0
  have HS : Hid (Sl .i32 w (.slice a0 len0 cap0) (z0.take len0)) := ⟨a0, cap0, by rw [hlen], hS⟩
  have HSP := hid hS
  have HN := hid (newbook_any w)
  have hLen : Hid ((z0.take len0).length = len0) := hlen
  generalize z0.take len0 = zs at *
  clear w0 hS hZ hlen
  have HO := hid (Ok.start w)
  by_cases hl : 60 < len0
  · go_enter Try.func5, Try.ntmps5
    go_wp2_with fail
    refine HN.out.mono ?_
    rintro e w' ⟨b, rfl, hb, hB⟩
    have HB := hid hB
    replace HO := hid (HO.out.step hb)
    clear hB hb
    go_wp2_with fail
    refine (awake_any HB.out).mono ?_
    rintro e w' ⟨rfl, hb⟩
    replace HO := hid (HO.out.step hb)
    clear hb
    go_wp2_with fail
    go_ret
    exact ⟨rfl, HO.out.1⟩
  · go_enter Try.func5, Try.ntmps5
    have hn : Hid (zs.length ≤ 1000000) := by show _ ≤ _; have := hLen.out; omega
    have HGL : Hid ((srt clsP zs).length = len0) := by show _ = _; rw [(sw_srt clsP zs).len]; exact hLen.out
    go_wp2_with fail
    refine HN.out.mono ?_
    rintro e w' ⟨b, rfl, hb, hB⟩
    have HB := hid hB
    replace HO := hid (HO.out.step hb)
    replace HS := hid (HS.out.step hb)
    replace HSP := hid (HSP.out.step hb)
    clear hB hb HN
    go_wp2_with fail
    refine (sort_any HB.out HS.out hn.out).mono ?_
    rintro e w' ⟨vg, rfl, ⟨ag, cg, rfl, hg⟩, hb⟩
    rw [HGL.out]
    have HG := hid hg
    replace HO := hid (HO.out.step hb)
    replace HS := hid (HS.out.step hb)
    replace HSP := hid (HSP.out.step hb)
    replace HB := hid (HB.out.step hb)
    clear hg hb
    go_wp2_with fail
    refine (oruns_any HB.out HS.out hn.out).mono ?_
    rintro e w' ⟨vp, rfl, ⟨ap, cp, rfl, hp⟩, hb⟩
    have HL : Hid (LS w b a0 cap0 zs ag cg ap w') := ⟨HO.out.step hb, HB.out.step hb, HSP.out.step hb, HG.out.step hb, hp⟩
    clear hp hb HO HB HSP HG HS
    have HRn := hid (fun k (h : k < (runsP clsP zs).length) => runs_bd (zs := zs) (f := ((runsP clsP zs)[k]).1) (t := ((runsP clsP zs)[k]).2) (List.getElem_mem h))
    have HRc := hid (fun k (h : k < (runsP clsP zs).length) v => cntI_run (zs := zs) (f := ((runsP clsP zs)[k]).1) (t := ((runsP clsP zs)[k]).2) (List.getElem_mem h) v)
    obtain ⟨R, hR⟩ : ∃ R, R = (runsP clsP zs).length := ⟨_, rfl⟩
    have HR := hid hR
    have hRb : R ≤ 1000 := by have h1 := runs_len clsP zs; have h2 := hLen.out; omega
    rw [← hR]
    have hlz1 : zs.length ≤ len0 := by have := hLen.out; omega
    have hlz2 : len0 ≤ zs.length := by have := hLen.out; omega
    clear hR
    go_wp2_with fail
    go_loopg [32] R (fun g vi wr => ∃ k : Nat, vi = .int .i64 k ∧ k ≤ R ∧ g = R - k ∧ Hid (LS w b a0 cap0 zs ag cg ap wr))
    case atStart => exact ⟨0, rfl, Nat.zero_le _, rfl, HL.out⟩
    case round =>
      clear HL
      obtain ⟨k, rfl, hk, hg, H⟩ := hrel
      have HGa := hid hg
      clear hg
      by_cases hlt : k < R
      · have hkr : k < (runsP clsP zs).length := by have := HR.out; omega
        obtain ⟨gp, rfl, hgp, r1, r2⟩ := H.out.p.at_ k hkr
        obtain ⟨b1, b2⟩ := HRn.out k hkr
        have HC := hid (HRc.out k hkr)
        generalize (runsP clsP zs)[k] = x at *
        obtain ⟨f, t⟩ := x
        simp only at r1 r2 b1 b2 HC
        have r1' : wr.cell? ⟨gp, k * 2, none⟩ = some (.int .i64 (f : Int)) := r1
        have z1 : (k : Int) < (R : Int) := by omega
        have HBX := hid (BX.new wr f t)
        have HL2 := hid (H.out.step ((Below.refl _ _).alloc (Nat.le_refl _) (.cells #[.int .i64 (f : Int), .int .i64 (t : Int)] 36)))
        have z2 : ¬ (f : Int) < 0 := by omega
        have z3 : ¬ (len0 : Int) < (t : Int) := by omega
        have z4 : ¬ (t : Int) ≤ (f : Int) := by omega
        go_wp2_with fail
        have hbs : wr.heap.size < (wr.alloc (.cells #[.int .i64 (f : Int), .int .i64 (t : Int)] 36)).heap.size := by simp
        generalize wr.alloc (.cells #[.int .i64 (f : Int), .int .i64 (t : Int)] 36) = W1 at *
        generalize wr.heap.size = bx at *
        clear r1 r2 r1' hgp hbs H
        go_loopg [7] (t - f) (fun g2 vj wr => ∃ j : Nat, vj = .int .i64 j ∧ f ≤ j ∧ j ≤ t ∧ g2 = t - j ∧ Hid (LS w b a0 cap0 zs ag cg (some ⟨gp, 0, none⟩) wr ∧ BX wr bx f t))
        case atStart => exact ⟨f, rfl, Nat.le_refl _, by omega, rfl, HL2.out, HBX.out⟩
        case round =>
          clear HL2 HBX
          obtain ⟨j, rfl, hfj, hjt, hg2, H⟩ := hrel
          have HG2 := hid hg2
          clear hg2
          by_cases hjt2 : j < t
          · have x0 := H.out.2.2.1
            have x1 := H.out.2.2.2
            have q1 : (j : Int) < (t : Int) := by omega
            have hjl : j < zs.length := by omega
            obtain ⟨v, hv⟩ : ∃ v, v = zs[j] := ⟨_, rfl⟩
            have HV := hid hv
            have HCv := hid (HC.out v)
            clear hv
            go_wp2_with fail
            clear x0 x1
            go_loopg [8, 9] (t - f) (fun g3 vn vi wr => ∃ (i : Nat) (n : Int), vi = .int .i64 i ∧ vn = .int .i64 n ∧ f ≤ i ∧ i ≤ t ∧ g3 = t - i ∧ -1000 ≤ n ∧ n ≤ 1000 ∧ Hid (n = cntI zs f i v - cntI (srt clsP zs) f i v ∧ LS w b a0 cap0 zs ag cg (some ⟨gp, 0, none⟩) wr ∧ BX wr bx f t))
            case atStart => exact ⟨f, 0, rfl, rfl, Nat.le_refl _, by omega, rfl, by omega, by omega, by rw [cntI_start, cntI_start]; rfl, H.out⟩
            case round =>
              clear H
              obtain ⟨i, n, rfl, rfl, hfi, hit, hg3, hn1, hn2, H⟩ := hrel
              have HG3 := hid hg3
              clear hg3
              have x0 := H.out.2.2.2.1
              have x1 := H.out.2.2.2.2
              by_cases hit2 : i < t
              · have hil : i < zs.length := by omega
                have hig : i < (srt clsP zs).length := by have := HGL.out; omega
                obtain ⟨ga, oa, ea, _, c1⟩ := H.out.2.1.l.at_ j hjl
                obtain ⟨ga', oa', ea', _, c2⟩ := H.out.2.1.l.at_ i hil
                obtain ⟨gb, ob, eb, _, c3⟩ := H.out.2.1.g.at_ i hig
                rw [ea] at ea'
                have e3 : ga = ga' ∧ oa = oa' := by
                  have := Option.some.inj ea'
                  injection this with a1 a2 _
                  exact ⟨a1, a2⟩
                obtain ⟨rfl, rfl⟩ := e3
                subst ea eb
                have hs1 := cntI_succ zs f i v hfi hil
                have hs2 := cntI_succ (srt clsP zs) f i v hfi hig
                rw [← HV.out] at c1
                have c1d : wr.drew.cell? ⟨ga, oa + j, none⟩ = some (.int .i32 v) := c1
                have c2d : wr.drew.cell? ⟨ga, oa + i, none⟩ = some (.int .i32 zs[i]) := c2
                have c3d : wr.drew.cell? ⟨gb, ob + i, none⟩ = some (.int .i32 (srt clsP zs)[i]) := c3
                have k1 := cntI_bd zs f (i + 1) v
                have k2 := cntI_bd (srt clsP zs) f (i + 1) v
                have k3 := HGL.out
                have HBd : Hid (-1000 ≤ cntI zs f (i + 1) v - cntI (srt clsP zs) f (i + 1) v ∧ cntI zs f (i + 1) v - cntI (srt clsP zs) f (i + 1) v ≤ 1000) := by
                  show _ ∧ _
                  omega
                have HS1 := hid hs1
                have HS2 := hid hs2
                have HD1 : Hid (LS w b (some ⟨ga, oa, none⟩) cap0 zs (some ⟨gb, ob, none⟩) cg (some ⟨gp, 0, none⟩) wr.drew.drew ∧ BX wr.drew.drew bx f t) := ⟨(H.out.2.1.step ((Below.refl _ _).drew)).step ((Below.refl _ _).drew), (H.out.2.2.step ((Below.refl _ _).drew)).step ((Below.refl _ _).drew)⟩
                have HN1 := hid H.out.1
                clear hs1 hs2 k1 k2 k3 H
                generalize zs[i] = a at *
                generalize (srt clsP zs)[i] = d at *
                have q2 : (i : Int) < (t : Int) := by omega
                have q3 : (i : Int) < (len0 : Int) := by omega
                have q4 : (j : Int) < (len0 : Int) := by omega
                by_cases ha : a = v
                · by_cases hd : d = v
                  · rw [ha] at c2 c2d HS1
                    rw [hd] at c3 c3d HS2
                    clear ha hd
                    go_wp2_with fail
                    go_region
                    go_wp2_with fail
                    go_region
                    go_wp2_with fail
                    go_roundg (t - (i + 1))
                    case measure => rw [HG3.out]; omega
                    case rel =>
                      have hN : n = cntI zs f (i + 1) v - cntI (srt clsP zs) f (i + 1) v := by have e1 := HS1.out; have e2 := HS2.out; have e3 := HN1.out; simp only [ite_true] at e1 e2; omega
                      refine ⟨i + 1, n, by go_num, by first | rfl | (congr 1; omega), by omega, by omega, rfl, by rw [hN]; exact HBd.out.1, by rw [hN]; exact HBd.out.2, hN, HD1.out⟩
                  · rw [ha] at c2 c2d HS1
                    clear ha
                    have hd2 : (d == v) = false := by simpa using hd
                    have HDn := hid hd
                    go_wp2_with fail
                    go_region
                    go_wp2_with fail
                    go_region
                    go_wp2_with fail
                    go_roundg (t - (i + 1))
                    case measure => rw [HG3.out]; omega
                    case rel =>
                      have hN : (n + 1) = cntI zs f (i + 1) v - cntI (srt clsP zs) f (i + 1) v := by have e1 := HS1.out; have e2 := HS2.out; have e3 := HN1.out; simp only [ite_true, ite_false, HDn.out] at e1 e2; omega
                      refine ⟨i + 1, (n + 1), by go_num, by first | rfl | (congr 1; omega), by omega, by omega, rfl, by rw [hN]; exact HBd.out.1, by rw [hN]; exact HBd.out.2, hN, HD1.out⟩
                · have ha2 : (a == v) = false := by simpa using ha
                  have HAn := hid ha
                  by_cases hd : d = v
                  · rw [hd] at c3 c3d HS2
                    clear hd
                    go_wp2_with fail
                    go_region
                    go_wp2_with fail
                    go_region
                    go_wp2_with fail
                    go_roundg (t - (i + 1))
                    case measure => rw [HG3.out]; omega
                    case rel =>
                      have hN : (n - 1) = cntI zs f (i + 1) v - cntI (srt clsP zs) f (i + 1) v := by have e1 := HS1.out; have e2 := HS2.out; have e3 := HN1.out; simp only [ite_true, ite_false, HAn.out] at e1 e2; omega
                      refine ⟨i + 1, (n - 1), by go_num, by first | rfl | (congr 1; omega), by omega, by omega, rfl, by rw [hN]; exact HBd.out.1, by rw [hN]; exact HBd.out.2, hN, HD1.out⟩
                  · have hd2 : (d == v) = false := by simpa using hd
                    have HDn := hid hd
                    go_wp2_with fail
                    go_region
                    go_wp2_with fail
                    go_region
                    go_wp2_with fail
                    go_roundg (t - (i + 1))
                    case measure => rw [HG3.out]; omega
                    case rel =>
                      have hN : n = cntI zs f (i + 1) v - cntI (srt clsP zs) f (i + 1) v := by have e1 := HS1.out; have e2 := HS2.out; have e3 := HN1.out; simp only [ite_false, HAn.out, HDn.out] at e1 e2; omega
                      refine ⟨i + 1, n, by go_num, by first | rfl | (congr 1; omega), by omega, by omega, rfl, by rw [hN]; exact HBd.out.1, by rw [hN]; exact HBd.out.2, hN, HD1.out⟩
              · have hn0 : n = 0 := by
                  have e : i = t := by omega
                  have h1 := H.out.1
                  rw [e, HCv.out] at h1
                  omega
                subst hn0
                have q2 : ¬ (i : Int) < (t : Int) := by omega
                have HE := hid H.out.2
                clear H
                go_wp2_with fail
                go_roundg (t - (j + 1))
                case measure => rw [HG2.out]; omega
                case rel => exact ⟨j + 1, by go_num, by omega, by omega, rfl, HE.out⟩
          · have x1 := H.out.2.2.2
            have q1 : ¬ (j : Int) < (t : Int) := by omega
            have HE := hid H.out.1
            clear H
            go_wp2_with fail
            go_roundg (R - (k + 1))
            case measure => rw [HGa.out]; omega
            case rel => exact ⟨k + 1, by go_num, by omega, rfl, HE.out⟩
      · have z1 : ¬ (k : Int) < (R : Int) := by omega
        go_wp2_with fail
        go_loopg [96] len0 (fun g4 vi wr => ∃ i : Nat, vi = .int .i64 i ∧ i ≤ len0 ∧ g4 = len0 - i ∧ Hid (LS w b a0 cap0 zs ag cg ap wr))
        case atStart => exact ⟨0, rfl, Nat.zero_le _, rfl, H.out⟩
        case round =>
          clear H
          obtain ⟨i, rfl, hi, hg4, H⟩ := hrel
          have HG4 := hid hg4
          clear hg4
          by_cases hil0 : i < len0
          · have hil : i < zs.length := by omega
            have hig : i < (srt clsP zs).length := by have := HGL.out; omega
            obtain ⟨ga, oa, rfl, hga, c1⟩ := H.out.l.at_ i hil
            obtain ⟨gb, ob, rfl, hgb, c3⟩ := H.out.g.at_ i hig
            have hz0 := srt_at0 clsP (fun x => (cls_bd x).1) zs i hil
            rw [List.getElem?_eq_getElem hig] at hz0
            have HZ0 : Hid (clsP zs[i] = 0 → (srt clsP zs)[i] = zs[i]) := fun h => Option.some.inj (hz0 h)
            have HCl := hid (cls_any H.out.bk zs[i])
            have Hc3 : Hid (∀ A, LS w b (some ⟨ga, oa, none⟩) cap0 zs (some ⟨gb, ob, none⟩) cg ap A → A.cell? ⟨gb, ob + i, none⟩ = some (.int .i32 (srt clsP zs)[i])) := fun A hA => by
              obtain ⟨gb', ob', e, _, c⟩ := hA.g.at_ i hig
              have e3 : gb = gb' ∧ ob = ob' := by
                have := Option.some.inj e
                injection this with a1 a2 _
                exact ⟨a1, a2⟩
              obtain ⟨rfl, rfl⟩ := e3
              exact c
            clear hz0 c3
            generalize zs[i] = a at *
            generalize (srt clsP zs)[i] = d at *
            have q3 : (i : Int) < (len0 : Int) := by omega
            by_cases hc0 : clsP a = 0
            · have hda := HZ0.out hc0
              subst hda
              rw [hc0] at HCl
              clear hc0 HZ0
              go_wp2_with fail
              refine HCl.out.mono ?_
              rintro e w2 ⟨rfl, hb⟩
              have HL2 := hid (H.out.step hb)
              have c4 := Hc3.out _ HL2.out
              clear hb
              go_wp2_with fail
              go_roundg (len0 - (i + 1))
              case measure => rw [HG4.out]; omega
              case rel => exact ⟨i + 1, by go_num, by omega, rfl, HL2.out⟩
            · have hc2 : (clsP a == 0) = false := by simpa using hc0
              generalize clsP a = ca at *
              go_wp2_with fail
              refine HCl.out.mono ?_
              rintro e w2 ⟨rfl, hb⟩
              have HL2 := hid (H.out.step hb)
              clear hb
              go_wp2_with fail
              go_roundg (len0 - (i + 1))
              case measure => rw [HG4.out]; omega
              case rel => exact ⟨i + 1, by go_num, by omega, rfl, HL2.out⟩
          · have q3 : ¬ (i : Int) < (len0 : Int) := by omega
            go_wp2_with fail
            refine (awake_any H.out.bk).mono ?_
            rintro e w' ⟨rfl, hb⟩
            have HO2 := hid (H.out.ok.step hb)
            clear hb
            go_wp2_with fail
            go_ret
            exact ⟨rfl, HO2.out.1⟩

set_option maxRecDepth 100000 in
theorem lifted (os : Os) (started : os.Started) (H : Type) (enc : TypeId × Value → H) :
    ReturnsInHanded {} Try.checked os 5 .any (Rows.orderStartersSpec.pre6 enc Try.prog Try.f5 Rows.orderStartersRow.domain false) (Rows.orderStartersSpec.post enc Try.prog Try.f5 false true false false) := by
  refine returnsInHanded_of_change (C := Try.checked) own started (by kernel_rfl) Try.func5
    (ChangeSpec.witness6 (enc := enc) (C := Try.checked) false ⟨#[], #[.slice none 0 0], []⟩ 8 (by kernel_rfl) (by kernel_rfl) (by kernel_rfl) (by kernel_rfl)) ?_
  intro W base args ds gs before hval0 hW hcnd _
  have hval : ∀ (j : Nat) t v, Try.f5.params[j]? = some t → args[j]? = some v → Value.okWide Try.prog W .any base t v := hval0
  have hW' := hW
  obtain ⟨p, q, hA0, hV, rfl, hfz, hnd⟩ := hW
  have hA : DataW.TrodAll enc Try.prog W 0 (fun _ => true) true Try.f5.params.toList args.toList ds p := hA0
  rw [Try.params5] at hA hval
  obtain ⟨v0, vs0, d0, ds0, p0, q0, hargs, rfl, rfl, h0, r0⟩ := trodAll_cons hA
  obtain ⟨rfl, rfl, rfl⟩ := trodAll_nil r0
  obtain rfl : args = #[v0] := by cases args; simp_all
  obtain ⟨rfl, rfl⟩ := trodVars_none hV
  obtain ⟨a0, len0, cap0, rfl⟩ := okWide_slice Try.underlying22 (hval 0 22 v0 rfl rfl)
  have k0 := h0
  have lt0 : ∀ x ∈ p0, x.block < W.heap.size := by obtain ⟨m, hm⟩ := k0; exact DataW.trod_lt m _ _ _ hm
  obtain ⟨z0, w0⟩ : ∃ zs, IsRow .i32 W a0 len0 cap0 zs := by
    obtain ⟨fuel, hf⟩ := h0
    rcases open_ints Try.underlying22 Try.underlying21 (by kernel_rfl) hf with ⟨hcs, _⟩ | ⟨x, l, c, zs, hcs, _, hl, hm, hz, _, hcell, hwz⟩
    · simp [Value.cells] at hcs
      obtain ⟨rfl, rfl, rfl⟩ := hcs
      exact ⟨[], .inl ⟨rfl, rfl, rfl, rfl⟩⟩
    · simp [Value.cells] at hcs
      obtain ⟨rfl, rfl, rfl⟩ := hcs
      exact ⟨zs, .inr ⟨_, rfl, hl, hm, by simpa using hz, hcell, hwz⟩⟩
  clear hA0 hval0
  refine (walk a0 len0 cap0 z0 W w0).mono fun e W' ⟨he, bel⟩ => ?_
  subst he
  exact ⟨_, rfl, _, _, _, [], _, [], hW', trodAll_mk1 (shut_bool Try.underlying4 _), (trodAll_cons_mk (Below.trod laidOut (by kernel_rfl) (of_decide_eq_true (by kernel_rfl)) k0 bel lt0) trodAll_mk0), rfl, bel.frame _, fun h => by cases h⟩

theorem over : Rows.orderStartersRow.holds Try.pinned (OpenSpec.ofChange Rows.orderStartersSpec) :=
  OpenClaim.holds_of_wide 5 Try.f5 rfl rfl rfl rfl rfl rfl rfl ⟨rfl, rfl, rfl, rfl, rfl⟩ rfl rfl rfl rfl rfl (by kernel_rfl) Try.func5 (by kernel_rfl)
    (of_decide_eq_true (by kernel_rfl)) (by unfold Func.isWrapper; first | (rw [if_pos (by decide +kernel)]; kernel_rfl) | (rw [if_neg (by decide +kernel)]; exact ⟨rfl, rfl⟩))
    (fun os started H enc _ => lifted os started H enc)

end Go.Proofs.Ytclcmkklonnalaa.orderStarters
namespace Go.Proofs.Ytclcmkklonnalaa
theorem orderStarters_holds : Rows.OrderStartersSaid := orderStarters.over
#print axioms orderStarters_holds
end Go.Proofs.Ytclcmkklonnalaa
