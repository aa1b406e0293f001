import Derived.Shelf.Abstract
import Derived.Test.YtoknfhjclpdihaaPu23
namespace Go.Proofs.Ytoknfhjclpdihaa
namespace Pu
open Go.RowKit Od

attribute [local go_sem] Oper.semAt_some
set_option maxRecDepth 100000 in
set_option maxHeartbeats 4000000 in
theorem putin_any (low : ByteArray) (es : List Ent) (hl : low.size + es.length ≤ 120) (hE : EntOk low.size es) (ao : Option Addr) (cap : Nat) (w : World)
    (hrow : ∀ i (h : i < es.length), ∃ g, ao = some ⟨g, 0, none⟩ ∧ w.cell? ⟨g, i * 2, none⟩ = some (.int .i32 es[i].1) ∧ w.cell? ⟨g, i * 2 + 1, none⟩ = some (.int .i64 es[i].2)) :
    Calls Try.prog 31 #[.string low, .slice ao es.length cap] w fun e w' => ∃ g, e = .returned (.slice (some ⟨g, 0, none⟩) (low.size + es.length) (low.size + es.length)) ∧ w.heap.size ≤ g ∧ Ro w' g (putL (bsI low) es) ∧ Below w.heap.size w w' := by
  have HE := hid hE
  have HR := hid hrow
  clear hE hrow
  have hmk : ∀ w, (Instr.makeSlice 22 (.int .i64 ((low.size : Int) + (es.length : Int))) (.int .i64 ((low.size : Int) + (es.length : Int)))).run Try.prog w = .ok (.slice (some ⟨w.heap.size, 0, none⟩) (low.size + es.length) (low.size + es.length)) (w.alloc (.cells (madeCells #[.int .i32 0] (low.size + es.length)) 21)) := fun w => by
    have := run_make_row' 22 21 (.int .i32 0) 4 Try.underlying22 Pu.Try.info_rn rfl .i64 .i64 (low.size + es.length) (by omega) (by omega) w
    simpa using this
  refine (callsIn_wide (n := 6)).1 ?_
  refine callsIn_of_wp_marks Try.func31 rfl trivial ?_ rfl
  simp only [Try.ntmps31, List.size_toArray, List.length_cons, List.length_nil, Nat.reduceAdd, Nat.reduceSub, Array.replicate_succ, Array.replicate_zero, List.push_toArray, List.append_toArray, List.nil_append, List.cons_append]
  have HNt : Hid (∀ w, Calls Try.prog 23 #[.int .i64 ((low.size : Int) + (es.length : Int))] w fun e w' => e = .returned (.slice (some ⟨w.heap.size, 0, none⟩) (low.size + es.length + 1) (low.size + es.length + 1)) ∧ Blk w' w.heap.size (List.replicate (low.size + es.length + 1) 0) [] ∧ Below w.heap.size w w') := fun w => by
    have := newt_any (low.size + es.length) (by omega) w
    rw [Int.natCast_add] at this
    exact this
  have X0 := heap_new w (.cells (madeCells #[.int .i32 0] (low.size + es.length)) 21)
  rw [made_zero32] at X0
  have HX0 : Hid (Ro (w.alloc (.cells (madeCells #[.int .i32 0] (low.size + es.length)) 21)) w.heap.size (List.replicate (low.size + es.length) 0)) := by
    show Ro _ _ _
    unfold Ro
    rw [made_zero32]
    exact X0
  clear X0
  have HX5 := hid (Bx.new (w.alloc (.cells (madeCells #[.int .i32 0] (low.size + es.length)) 21)) (.slice (some ⟨w.heap.size, 0, none⟩) (low.size + es.length) (low.size + es.length)) 22)
  gi_wp2_with (first | (refine ⟨trivial, ?_⟩; gi_at_call 23; refine (callsIn_wide.2 (HNt.out _)).mono ?_; rintro e w1 ⟨rfl, hB1, hb1⟩; have HI1 := hid (And.intro hB1 hb1); clear hB1 hb1; have c5 : ∀ o, (w1.alloc o).cell? ⟨w.heap.size + 1, 0, none⟩ = some (.slice (some ⟨w.heap.size, 0, none⟩) (low.size + es.length) (low.size + es.length)) := fun o => by have := ((HX5.out.step HI1.out.2).alloc o).cell; simpa using this))
  have HA : Hid (Ap w w.heap.size (w.heap.size + 1) (w.heap.size + 1 + 1) w1.heap.size) := by
    have h1 := HI1.out.1.lt
    have h2 := HI1.out.2.size
    simp at h1 h2
    exact ⟨by omega, by omega, by omega, by omega, by omega, by omega, by omega⟩
  have HP : Hid (PW w (low.size + es.length) w.heap.size (w.heap.size + 1) (w.heap.size + 1 + 1) w1.heap.size (List.replicate (low.size + es.length) 0) (onL (low.size + es.length) 0) (w1.alloc (.cells #[.slice (some ⟨w.heap.size + 1 + 1, 0, none⟩) (low.size + es.length + 1) (low.size + es.length + 1)] 48))) := by
    obtain ⟨hB1, hb1⟩ := HI1.out
    have h2 := hb1.size
    simp at h2
    have hz : Below w.heap.size w ((w.alloc (.cells (madeCells #[.int .i32 0] (low.size + es.length)) 21)).alloc (.cells #[.slice (some ⟨w.heap.size, 0, none⟩) (low.size + es.length) (low.size + es.length)] 22)) := ((Below.refl _ _).alloc (Nat.le_refl _) _).alloc (by simp) _
    have e5 := HX5.out
    have e1 : (w.alloc (.cells (madeCells #[.int .i32 0] (low.size + es.length)) 21)).heap.size = w.heap.size + 1 := by simp
    have e2 : ((w.alloc (.cells (madeCells #[.int .i32 0] (low.size + es.length)) 21)).alloc (.cells #[.slice (some ⟨w.heap.size, 0, none⟩) (low.size + es.length) (low.size + es.length)] 22)).heap.size = w.heap.size + 1 + 1 := by simp
    rw [e1] at e5
    rw [e2] at hB1
    have hal : Below w1.heap.size w1 (w1.alloc (.cells #[.slice (some ⟨w.heap.size + 1 + 1, 0, none⟩) (low.size + es.length + 1) (low.size + es.length + 1)] 48)) := (Below.refl _ _).alloc (Nat.le_refl _) _
    refine ⟨(hz.trans (hb1.mono hz.size)).trans (hal.mono (by omega)), ?_, (e5.step hb1).step hal, Bx.new w1 _ _, ?_⟩
    · exact ((HX0.out.step ((Below.refl _ _).alloc (Nat.le_refl _) _)).step hb1).step hal
    · rw [onL_zero]
      exact ⟨_, hB1.step hal, tal_zero _ (by omega), by simp⟩
  clear HX0 HX5 HI1 c5 HNt hmk
  have eN : (low.size : Int) + (es.length : Int) = ((low.size + es.length : Nat) : Int) := by omega
  rw [eN]
  have HNe := hid (Eq.refl (low.size + es.length))
  have hb0 : es.length ≤ 120 := by omega
  clear eN
  generalize w1.alloc (.cells #[.slice (some ⟨w.heap.size + 1 + 1, 0, none⟩) (low.size + es.length + 1) (low.size + es.length + 1)] 48) = W0 at *
  generalize w1.heap.size = o6 at *
  clear w1
  generalize hN : low.size + es.length = N at *
  replace HNe := hid hN
  clear hN
  gi_loopw [25] (fun i wr => ∃ k : Nat, k ≤ N ∧ i = .int .i64 k ∧ Hid (PW w N w.heap.size (w.heap.size + 1) (w.heap.size + 1 + 1) o6 (List.replicate N 0) (onL N k) wr)) (fun i _ => N - (intOf i).toNat)
  case atStart => exact ⟨0, Nat.zero_le _, rfl, HP.out⟩
  case round =>
    obtain ⟨k, hk, rfl, H⟩ := hrel
    clear HP
    by_cases hlt : k < N
    · have c6 := H.out.b6.cell
      have HAd : Hid (Calls Try.prog 24 #[.slice (some ⟨w.heap.size + 1 + 1, 0, none⟩) (N + 1) (N + 1), .int .i64 k, .int .i64 1] wr fun e w' => e = .returned (.tuple #[]) ∧ Hid (PW w N w.heap.size (w.heap.size + 1) (w.heap.size + 1 + 1) o6 (List.replicate N 0) (onL N (k + 1)) w')) := by
        obtain ⟨R, hB, hT, hl⟩ := H.out.tl
        have hkl : k < (onL N k).length := by rw [onL_len]; exact hlt
        refine (tadd_any hB hT k hkl 1 (by rw [onL_get]; simp) (N + 1) hl).mono ?_
        rintro e w' ⟨rfl, h1, h2⟩
        rw [onL_step] at h1
        exact ⟨rfl, H.out.turn HA.out h2 h1⟩
      have hltz : (k : Int) < (N : Int) := by omega
      gi_wp2_with (first | (refine ⟨trivial, ?_⟩; gi_at_call 24; refine (callsIn_wide.2 HAd.out).mono ?_; rintro e w2 ⟨rfl, H2⟩))
      go_roundw
      case rel => exact ⟨k + 1, hlt, by go_num, H2⟩
      case measure => (simp [intOf]) <;> omega
    · have hke : k = N := by omega
      subst hke
      clear hk hlt
      gi_wp2_with (first | (refine ⟨trivial, ?_⟩; gi_at_call 40; refine (callsIn_wide.2 (back_any _ _ _ _)).mono ?_; rintro e w' ⟨rfl, rfl⟩))
      have HI : Hid (IB w (bsI low) es k w.heap.size (w.heap.size + 1) (w.heap.size + 1 + 1) o6 ao cap wr.heap.size [] (wr.alloc (.cells #[.slice ao es.length cap] 56))) := by
        refine ⟨List.replicate k 0, ?_, ?_, Bx.new wr _ _⟩
        · rw [← onL_fr]
          exact H.out.step ((Below.refl _ _).alloc (Nat.le_refl _) _)
        · have := PI.start (bsI low) es
          rw [bsI_len, HNe.out] at this
          exact this
      have hT := back1_tells 5 ao cap wr.heap.size (by omega) es (by omega) (wr.alloc (.cells #[.slice ao es.length cap] 56))
      have HZ : Hid (w.heap.size < (wr.alloc (.cells #[.slice ao es.length cap] 56)).heap.size ∧ w.heap.size + 1 + 1 < (wr.alloc (.cells #[.slice ao es.length cap] 56)).heap.size ∧ o6 < (wr.alloc (.cells #[.slice ao es.length cap] 56)).heap.size) := by
        obtain ⟨O, h1, _, _⟩ := HI.out
        obtain ⟨R, h2, _⟩ := h1.tl
        exact ⟨h1.ro.lt, h2.lt, h1.b6.lt⟩
      have HO : Hid (w.heap.size < wr.heap.size ∧ w.heap.size + 1 + 1 < wr.heap.size) := by
        obtain ⟨R, h2, _⟩ := H.out.tl
        exact ⟨H.out.ro.lt, h2.lt⟩
      clear H
      generalize wr.alloc (.cells #[.slice ao es.length cap] 56) = W1 at *
      generalize wr.heap.size = o7 at *
      have hz0 : w.heap.size ≤ W1.heap.size := by have := HZ.out; omega
      refine wpIn_told3 rfl (by omega) (gf := 44) (lb := #[.pointer (some ⟨o7, 0, none⟩)]) rfl trivial (enters_of Try.func44 (by kernel_rfl) rfl) hT (fun _ => rfl)
        (IB w (bsI low) es k w.heap.size (w.heap.size + 1) (w.heap.size + 1 + 1) o6 ao cap o7) (fun _ _ => False) (fun pre A B h hk => by obtain ⟨O, h1, h2, h3⟩ := h; exact ⟨O, h1.keep hk hz0, h2, hk.bx h3⟩) (fun _ _ _ h _ => h)
        (fun pre A h => by
          obtain ⟨O, h1, h2, h3⟩ := h
          refine ⟨h3, fun i hi => ?_⟩
          obtain ⟨g, e1, e2, e3⟩ := HR.out i hi
          exact ⟨g, e1, cell_below h1.bel e2, cell_below h1.bel e3⟩) HI.out
        (fun x c W => ∃ bx, W1.heap.size ≤ bx ∧ W.heap[bx]? = some (.cells #[.int .i32 x.2.1, .int .i64 x.2.2] 68) ∧ c = { tmps := #[.string low, .slice ao es.length cap, undef, undef, .slice none 0 0, .pointer (some ⟨w.heap.size + 1, 0, none⟩), .pointer (some ⟨o6, 0, none⟩), u7, undef, .pointer (some ⟨bx, 0, none⟩), undef, undef, undef, undef, .string low, .int .i64 (low.size : Int), .slice ao es.length cap, .int .i64 (es.length : Int), .int .i64 (k : Int), .slice (some ⟨w.heap.size, 0, none⟩) k k, .slice (some ⟨w.heap.size, 0, none⟩) k k, .int .i64 (k : Int), .slice (some ⟨w.heap.size + 1 + 1, 0, none⟩) (k + 1) (k + 1), .slice (some ⟨w.heap.size, 0, none⟩) k k, .int .i64 (k : Int), .int .i64 (k : Int), .bool false, u27, u28, u29, u30, u31, .slice ao es.length cap, .func (.func 44) #[] #[.pointer (some ⟨o7, 0, none⟩)], .int .i64 (x.1 : Int), .agg #[.int .i32 x.2.1, .int .i64 x.2.2], undef, undef, undef, undef, undef, undef, undef, undef, undef, undef, undef, undef, undef, undef, undef, undef, undef, undef, undef, undef, undef, undef, undef, undef, undef, undef, undef, undef, undef, undef, undef, undef], defers := [] }) (fun x c A B h hk => by obtain ⟨bx, h1, h2, h3⟩ := h; exact ⟨bx, h1, hk.same _ _ h2 (.inr rfl), h3⟩) ?assign ?body ?done ?stop
      case assign =>
        intro l x W K hsz hK
        have e : (#[34, 35].zip (toldB x)).foldl (fun (t : Array Value) (p : Nat × Value) => t.setIfInBounds p.1 p.2) #[.string low, .slice ao es.length cap, undef, undef, .slice none 0 0, .pointer (some ⟨w.heap.size + 1, 0, none⟩), .pointer (some ⟨o6, 0, none⟩), u7, undef, undef, undef, undef, undef, undef, .string low, .int .i64 (low.size : Int), .slice ao es.length cap, .int .i64 (es.length : Int), .int .i64 (k : Int), .slice (some ⟨w.heap.size, 0, none⟩) k k, .slice (some ⟨w.heap.size, 0, none⟩) k k, .int .i64 (k : Int), .slice (some ⟨w.heap.size + 1 + 1, 0, none⟩) (k + 1) (k + 1), .slice (some ⟨w.heap.size, 0, none⟩) k k, .int .i64 (k : Int), .int .i64 (k : Int), .bool false, u27, u28, u29, u30, u31, .slice ao es.length cap, .func (.func 44) #[] #[.pointer (some ⟨o7, 0, none⟩)], undef, undef, undef, undef, undef, undef, undef, undef, undef, undef, undef, undef, undef, undef, undef, undef, undef, undef, undef, undef, undef, undef, undef, undef, undef, undef, undef, undef, undef, undef, undef, undef, undef, undef] = #[.string low, .slice ao es.length cap, undef, undef, .slice none 0 0, .pointer (some ⟨w.heap.size + 1, 0, none⟩), .pointer (some ⟨o6, 0, none⟩), u7, undef, undef, undef, undef, undef, undef, .string low, .int .i64 (low.size : Int), .slice ao es.length cap, .int .i64 (es.length : Int), .int .i64 (k : Int), .slice (some ⟨w.heap.size, 0, none⟩) k k, .slice (some ⟨w.heap.size, 0, none⟩) k k, .int .i64 (k : Int), .slice (some ⟨w.heap.size + 1 + 1, 0, none⟩) (k + 1) (k + 1), .slice (some ⟨w.heap.size, 0, none⟩) k k, .int .i64 (k : Int), .int .i64 (k : Int), .bool false, u27, u28, u29, u30, u31, .slice ao es.length cap, .func (.func 44) #[] #[.pointer (some ⟨o7, 0, none⟩)], .int .i64 (x.1 : Int), .agg #[.int .i32 x.2.1, .int .i64 x.2.2], undef, undef, undef, undef, undef, undef, undef, undef, undef, undef, undef, undef, undef, undef, undef, undef, undef, undef, undef, undef, undef, undef, undef, undef, undef, undef, undef, undef, undef, undef, undef, undef] := by simp [toldB]
        rw [e]
        obtain ⟨x1, x2, x3⟩ := x
        clear e
        gi_wp2_with fail
        exact hK _ _ ((Below.refl _ _).alloc (Nat.le_refl _) _) ⟨W.heap.size, hsz, heap_new W _, rfl⟩
      case body =>
        rintro l pre x c W hIB ⟨bx, hbx, hc9, rfl⟩ hNx
        clear hT HI
        obtain ⟨O, hPW, hPI, hBx⟩ := hIB
        obtain ⟨m, hm, rfl, rfl⟩ := hNx
        rw [tb_len] at hPI
        obtain ⟨j, hj⟩ : ∃ j, es.length - 1 - m = j := ⟨_, rfl⟩
        have hjl : j < es.length := by omega
        have ex : tbN es m = (j, es[j]) := by
          unfold tbN
          rw [hj, List.getD_eq_getElem?_getD, List.getElem?_eq_getElem hjl]; rfl
        rw [show es.length - m = j + 1 by omega] at hPI
        have HTb := hid (tb_succ es m)
        rw [ex] at HTb hc9
        rw [ex]
        have htl := hPI.tell hjl (by rw [bsI_len]; exact HE.out)
        have HSt : Hid (∀ q, At1 (fr O) q es[j].2 → PI (bsI low) es j (O.set q es[j].1)) := fun q hq => (hPI.step hjl (by rw [bsI_len]; exact HE.out) hq).1
        have hcd := HE.out j hjl
        have HLn : Hid (es.length - (tb es m ++ [(j, es[j])]).length = j) := by
          show _ = _
          rw [List.length_append, tb_len]
          simp
          omega
        have hOl : O.length = k := by have := hPI.len; rw [bsI_len, HNe.out] at this; exact this
        have HF : Hid (Calls Try.prog 41 #[.slice (some ⟨w.heap.size + 1 + 1, 0, none⟩) (k + 1) (k + 1), .int .i64 es[j].2] W fun e w' => (∃ p : Nat, e = .returned (.int .i64 p) ∧ At1 (fr O) p es[j].2) ∧ w' = W) := by
          obtain ⟨R, hB, hT, hl⟩ := hPW.tl
          exact tfind_any hB hT _ htl.1 htl.2 (k + 1) hl
        have HAd : Hid (∀ p, At1 (fr O) p es[j].2 → Calls Try.prog 24 #[.slice (some ⟨w.heap.size + 1 + 1, 0, none⟩) (k + 1) (k + 1), .int .i64 p, .int .i64 (-1)] W fun e w' => e = .returned (.tuple #[]) ∧ Hid (PW w k w.heap.size (w.heap.size + 1) (w.heap.size + 1 + 1) o6 O (fr (O.set p es[j].1)) w' ∧ Alt (w.heap.size + 1 + 1) W w')) := fun p hp => by
          obtain ⟨R, hB, hT, hl⟩ := hPW.tl
          obtain ⟨p1, p2, p3⟩ := hp
          refine (tadd_any hB hT p p1 (-1) (by rw [p3]; omega) (k + 1) hl).mono ?_
          rintro e w' ⟨rfl, h1, h2⟩
          rw [p3] at h1
          rw [fr_set _ _ _ (by omega)]
          exact ⟨rfl, hPW.turn HA.out h2 h1, h2⟩
        have c6 := hPW.b6.cell
        have c91 : W.cell? ⟨bx, 1, none⟩ = some (.int .i64 es[j].2) := by simp [World.cell?, hc9]
        have HC9 := hid hc9
        have HBx := hid hBx
        clear hPW hPI htl hcd hc9 ex hBx
        generalize es[j] = en at *
        obtain ⟨x1, x2⟩ := en
        gi_wp2_with (first | (refine ⟨trivial, ?_⟩; gi_at_call 41; refine (callsIn_wide.2 HF.out).mono ?_; rintro e Wb ⟨⟨p, rfl, hp⟩, rfl⟩; have HQ := hid hp; clear hp))
        have hpk : p < k := by obtain ⟨h1, _⟩ := HQ.out; rw [fr_len, hOl] at h1; exact h1
        have hpz : (p : Int) < (k : Int) := by omega
        refine ⟨trivial, ?_⟩
        gi_at_call 24
        refine (callsIn_wide.2 (HAd.out p HQ.out)).mono ?_
        rintro e W2 ⟨rfl, H2⟩
        have c5 := H2.out.1.b5.cell
        have hcn : W2.heap[bx]? = some (.cells #[.int .i32 x1, .int .i64 x2] 68) := (H2.out.2.block bx (Array.getElem?_eq_some_iff.1 HC9.out).1 (by have := HZ.out; omega)).trans HC9.out
        have c90 : W2.cell? ⟨bx, 0, none⟩ = some (.int .i32 x1) := by simp [World.cell?, hcn]
        have cg := H2.out.1.ro.cell p _ (List.getElem?_eq_getElem (by omega))
        have fg := H2.out.1.ro.frozen p
        have HEnd : Hid (goesR W1.heap.size (IB w (bsI low) es k w.heap.size (w.heap.size + 1) (w.heap.size + 1 + 1) o6 ao cap o7) (fun _ _ => False) (tb es m ++ [(j, (x1, x2))]) Wb .normal { tmps := #[], defers := [] } (W2.setCell ⟨w.heap.size, p, none⟩ (.int .i32 x1))) := by
          have ha2 : Alt w.heap.size W2 (W2.setCell ⟨w.heap.size, p, none⟩ (.int .i32 x1)) := (Alt.refl _ _).set _ _
          refine ⟨⟨Nat.le_trans H2.out.2.size ha2.size, fun q o hq ho _ => ?_⟩, O.set p x1, H2.out.1.store HA.out p x1, ?_, ?_⟩
          · have hq1 := (Array.getElem?_eq_some_iff.1 ho).1
            have hs := H2.out.2.size
            have hz := HZ.out
            rw [ha2.block q (by omega) (by omega), H2.out.2.block q hq1 (by omega), ho]
          · rw [HLn.out]
            exact HSt.out p HQ.out
          · have hne := HO.out
            exact bx_alt (bx_alt HBx.out H2.out.2 (by omega)) ha2 (by omega)
        clear hcn
        gi_wp2_with fail
        exact HEnd.out
      case done =>
        rintro D xs W hD hS hI hK
        clear hT HI
        subst hS
        obtain ⟨O, hPW, hPI, _⟩ := hI
        rw [tb_len, Nat.sub_self] at hPI
        have HFin : Hid (mg O (bsI low) = putL (bsI low) es) := hPI.fin
        have hcnt := hPI.cnt
        have hOl : O.length = k := by have := hPI.len; rw [bsI_len, HNe.out] at this; exact this
        rw [bsI_len, hOl] at hcnt
        have HCnt : Hid (ps (fr O) k = low.size) := by show _ = _; omega
        have HOl := hid hOl
        have HBig := hid hPI.big
        have HP := hid (And.intro hPW hK)
        have c5 := hPW.b5.cell
        clear hPW hK hPI hcnt hOl
        gi_wp2_with fail
        clear c5
        refine wpIn_wide.2 ?_
        go_loopg [11, 50] k (fun gg vn vi wq => ∃ i nx : Nat, vn = .int .i64 nx ∧ vi = .int .i64 i ∧ i ≤ k ∧ nx ≤ 120 ∧ gg = k - i ∧ Hid ((nx : Int) = ps (fr O) i ∧ PW w k w.heap.size (w.heap.size + 1) (w.heap.size + 1 + 1) o6 (two (mg O (bsI low)) O i) (fr O) wq ∧ wq.heap[D]? = some (.deferred (some []))))
        case atStart => exact ⟨0, 0, rfl, rfl, Nat.zero_le _, Nat.zero_le _, rfl, by rw [ps_0]; rfl, HP.out.1, HP.out.2⟩
        case round =>
          obtain ⟨i, nx, rfl, rfl, hik, hnx, hgg, H⟩ := hrel
          have HGG := hid hgg
          clear hgg HP
          by_cases hlt : i < k
          · have hltz : (i : Int) < (k : Int) := by omega
            have hgl : (mg O (bsI low)).length = O.length := mg_len _ _
            have c5 := H.out.2.1.b5.cell
            have hio : i < O.length := by rw [HOl.out]; exact hlt
            have cg := H.out.2.1.ro.cell i _ (two_get hgl hio)
            have hps := ps_succ (fr O) i (by rw [fr_len]; exact hio)
            rw [fr_get] at hps
            have hbg := HBig.out O[i] (List.getElem_mem hio)
            have HGt := hid (mg_get O (bsI low) i hio)
            have HTs := hid (two_step hgl hio)
            have HTe : Hid (O[i] ≠ 0 → two (mg O (bsI low)) O (i + 1) = two (mg O (bsI low)) O i) := fun h => two_same hgl hio (by rw [mg_get O (bsI low) i hio, if_neg h])
            by_cases h0 : O[i] = 0
            · rw [if_pos h0] at hps
              rw [h0] at cg
              clear hbg HTe
              have hb1 : nx < low.size := by
                have h1 := H.out.1
                have h2 := HCnt.out
                have h3 := ps_mono (fr O) (fr_bd O) (i + 1) k (by omega)
                omega
              have hb1z : (nx : Int) < (low.size : Int) := by omega
              have c5d : wr.drew.cell? ⟨w.heap.size + 1, 0, none⟩ = some (.slice (some ⟨w.heap.size, 0, none⟩) k k) := c5
              have fg := H.out.2.1.ro.frozen i
              have HPs := hid hps
              clear hps
              have HW : Hid (PW w k w.heap.size (w.heap.size + 1) (w.heap.size + 1 + 1) o6 (two (mg O (bsI low)) O (i + 1)) (fr O) (wr.setCell ⟨w.heap.size, i, none⟩ (.int .i32 (wrap32 (low[nx].toNat : Int)))).drew ∧ (wr.setCell ⟨w.heap.size, i, none⟩ (.int .i32 (wrap32 (low[nx].toNat : Int)))).drew.heap[D]? = some (.deferred (some []))) := by
                have hw : wrap32 (low[nx].toNat : Int) = (low[nx].toNat : Int) := by
                  have := low[nx].toNat_lt
                  unfold wrap32
                  omega
                have hd : (bsI low).getD nx 0 = (low[nx].toNat : Int) := by
                  have := congrArg List.head? (bsI_drop low nx hb1)
                  rw [List.head?_drop] at this
                  rw [List.getD_eq_getElem?_getD, this]
                  rfl
                have hn : (ps (fr O) i).toNat = nx := by have := H.out.1; omega
                rw [hw, HTs.out, HGt.out, if_pos h0, hn, hd]
                refine ⟨(H.out.2.1.store HA.out i _).step ((Below.refl _ _).drew), ?_⟩
                have ha : Alt w.heap.size wr (wr.setCell ⟨w.heap.size, i, none⟩ (.int .i32 (low[nx].toNat : Int))) := (Alt.refl _ _).set _ _
                exact (ha.block D (Array.getElem?_eq_some_iff.1 H.out.2.2).1 (by have := HZ.out; omega)).trans H.out.2.2
              clear HGt HTs
              go_wp2_with fail
              go_region
              go_wp2_with fail
              go_roundg (k - (i + 1))
              case measure => rw [HGG.out]; omega
              case rel => exact ⟨i + 1, nx + 1, by go_num, by go_num, by omega, by have := HNe.out; omega, rfl, by have := H.out.1; have := HPs.out; omega, HW.out.1, HW.out.2⟩
            · rw [if_neg h0] at hps
              have HPs := hid hps
              have HW := hid (HTe.out h0)
              clear HTe HTs HGt hps
              generalize O[i] = r at *
              go_wp2_with fail
              go_roundg (k - (i + 1))
              case measure => rw [HGG.out]; omega
              case rel => exact ⟨i + 1, nx, rfl, by go_num, by omega, by omega, rfl, by have := H.out.1; have := HPs.out; omega, by rw [HW.out]; exact H.out.2.1, H.out.2.2⟩
          · have hie : i = k := by omega
            subst hie
            have c5 := H.out.2.1.b5.cell
            clear hik hlt
            go_wp2_with fail
            gi_wp2_with fail
            refine ⟨by simp, .inl ⟨_, _, rfl, run_takeDeferred H.out.2.2, ?_⟩⟩
            refine ⟨_, results_tmp rfl _ _ _, ?_⟩
            have hkc := Kc.grown (N := W1.heap.size) (grownBy_putObj' wr D (.deferred none)) (fun r e => by cases e; exact ⟨hD, _, H.out.2.2, rfl⟩)
            have hF := H.out.2.1.keep hkc hz0
            refine ⟨w.heap.size, ?_, Nat.le_refl _, ?_, hF.bel⟩
            · rw [HNe.out]; rfl
            · have hro := hF.ro
              have e : two (mg O (bsI low)) O i = putL (bsI low) es := by
                rw [← HFin.out]
                have := two_fin (mg_len O (bsI low))
                rw [HOl.out] at this
                exact this
              rw [e] at hro
              exact hro
      case stop => intro D xs W _ h; exact h.elim
end Pu
end Go.Proofs.Ytoknfhjclpdihaa
