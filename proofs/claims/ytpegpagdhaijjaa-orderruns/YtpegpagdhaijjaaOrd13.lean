import Derived.Test.YtpegpagdhaijjaaOrd12
namespace Go.Proofs.Ytpegpagdhaijjaa
namespace Od
open Go.RowKit

attribute [local go_sem] Oper.semAt_some
set_option maxRecDepth 100000 in
set_option maxHeartbeats 4000000 in
theorem sort_any {w : World} {b : Nat} {v : Value} {zs : List Int} (hB : Bk w b) (hS : Sl .i32 w v zs) (hn : zs.length ≤ 1000000) :
    Calls Try.prog 11 #[.pointer (some ⟨b, 0, none⟩), v] w fun e w' => ∃ v', e = .returned v' ∧ Sl .i32 w' v' (srt clsP zs) ∧ Below w.heap.size w w' := by
  have HB := hid hB
  have hb0 : Below w.heap.size w (w.alloc (.cells #[.pointer (some ⟨b, 0, none⟩)] 23)) := (Below.refl w.heap.size w).alloc (Nat.le_refl _) _
  have HC := hid (clone_any' v zs _ (hS.step hb0) hn)
  have HX0 := hid (Bx.new w (.pointer (some ⟨b, 0, none⟩)) 23)
  have Hb0 := hid hb0
  obtain ⟨ao0, cap0, rfl, hS⟩ := hS
  clear hB hS hb0
  refine (callsIn_wide (n := 6)).1 ?_
  refine callsIn_of_wp_marks Try.func11 rfl trivial ?_ rfl
  simp only [Try.ntmps11, List.size_toArray, List.length_cons, List.length_nil, Nat.reduceAdd, Nat.reduceSub, Array.replicate_succ, Array.replicate_zero, List.push_toArray, List.append_toArray, List.nil_append, List.cons_append]
  gi_wp2_with (first | (refine ⟨trivial, ?_⟩; gi_at_call 37; refine (callsIn_wide.2 HC.out).mono ?_; rintro e w1 ⟨ao, cap, rfl, hb1, hcap, hnone, hrow⟩; have HI1 := hid (And.intro hb1 (And.intro hcap (And.intro hnone hrow))); clear hb1 hcap hnone hrow; have c2 : ∀ o, (w1.alloc o).cell? ⟨w.heap.size, 0, none⟩ = some (.pointer (some ⟨b, 0, none⟩)) := fun o => ((HX0.out.step HI1.out.1).alloc o).cell) | (refine ⟨trivial, ?_⟩; gi_at_call 38; refine (callsIn_wide.2 (runs_any _ _ _ _ _)).mono ?_; rintro e w' ⟨rfl, rfl⟩))
  have HI2 : Hid (SoI w b zs ao cap w.heap.size w1.heap.size (w1.heap.size + 1 + 1) (w1.heap.size + 1) [] (((w1.alloc (.cells #[.slice ao zs.length cap] 22)).alloc (.cells #[.pointer (some ⟨b, 0, none⟩)] 23)).alloc (.cells #[.slice ao zs.length cap] 22))) := by
    obtain ⟨hb1, hcap, hnone, hrow⟩ := HI1.out
    have ha1 : Below w1.heap.size w1 (((w1.alloc (.cells #[.slice ao zs.length cap] 22)).alloc (.cells #[.pointer (some ⟨b, 0, none⟩)] 23)).alloc (.cells #[.slice ao zs.length cap] 22)) := (((Below.refl _ _).alloc (Nat.le_refl _) _).alloc (by simp) _).alloc (by simp; omega) _
    have s0 := Hb0.out.size
    have s1 := hb1.size
    have s2 : (w.alloc (.cells #[.pointer (some ⟨b, 0, none⟩)] 23)).heap.size = w.heap.size + 1 := by simp
    refine ⟨(Hb0.out.trans (hb1.mono s0)).trans (ha1.mono (by omega)), (HX0.out.step hb1).step ha1, ((Bx.new w1 _ _).alloc _).alloc _, ?_, ?_, ?_⟩
    · have := Bx.new ((w1.alloc (.cells #[.slice ao zs.length cap] 22)).alloc (.cells #[.pointer (some ⟨b, 0, none⟩)] 23)) (.slice ao zs.length cap) 22
      simpa using this
    · have := (Bx.new (w1.alloc (.cells #[.slice ao zs.length cap] 22)) (.pointer (some ⟨b, 0, none⟩)) 23).alloc (.cells #[.slice ao zs.length cap] 22)
      simpa using this
    · rcases hrow with h | ⟨g, T, h1, h2, h3⟩
      · exact .inl h
      · have := h3.lt
        exact .inr ⟨g, T, zs, h1, by omega, by omega, by omega, by omega, by omega, h3.step ha1, Upto.start _ _⟩
  have hT := runs1_tells 5 b ao cap (w1.heap.size + 1 + 1) (w1.heap.size + 1) (by omega) zs hn (((w1.alloc (.cells #[.slice ao zs.length cap] 22)).alloc (.cells #[.pointer (some ⟨b, 0, none⟩)] 23)).alloc (.cells #[.slice ao zs.length cap] 22))
  have hz0 : w.heap.size ≤ (((w1.alloc (.cells #[.slice ao zs.length cap] 22)).alloc (.cells #[.pointer (some ⟨b, 0, none⟩)] 23)).alloc (.cells #[.slice ao zs.length cap] 22)).heap.size := HI2.out.bel.size
  clear c2 HX0 Hb0 HC
  generalize (((w1.alloc (.cells #[.slice ao zs.length cap] 22)).alloc (.cells #[.pointer (some ⟨b, 0, none⟩)] 23)).alloc (.cells #[.slice ao zs.length cap] 22)) = W0 at *
  have HN := hid HI1.out.2
  clear HI1
  generalize w1.heap.size = o5 at *
  refine wpIn_told2 rfl (by omega) (gf := 65) (lb := #[.pointer (some ⟨o5 + 1 + 1, 0, none⟩), .pointer (some ⟨o5 + 1, 0, none⟩)]) rfl trivial (enters_of Try.func65 (by kernel_rfl) rfl) hT (fun _ => rfl)
    (SoI w b zs ao cap w.heap.size o5 (o5 + 1 + 1) (o5 + 1)) (fun _ _ => False) (fun pre A B h hk => h.keep hk hz0) (fun _ _ _ h _ => h) (fun pre A h => h.ne HB.out) HI2.out
    (fun x => { tmps := #[.pointer (some ⟨b, 0, none⟩), .slice ao0 zs.length cap0, .pointer (some ⟨w.heap.size, 0, none⟩), undef, .slice none 0 0, .pointer (some ⟨o5, 0, none⟩), .int .i64 (x.1 : Int), .int .i64 (x.2 : Int), .slice ao0 zs.length cap0, .slice ao zs.length cap, .pointer (some ⟨b, 0, none⟩), .slice ao zs.length cap, .func (.func 65) #[] #[.pointer (some ⟨o5 + 1 + 1, 0, none⟩), .pointer (some ⟨o5 + 1, 0, none⟩)], .int .i64 (x.1 : Int), .int .i64 (x.2 : Int), undef, undef, undef, undef, undef, undef, undef, undef], defers := [] }) ?assign ?body ?done ?stop
  case assign =>
    intro l x W K hK
    have e : (#[13, 14].zip (toldR x)).foldl (fun (t : Array Value) (p : Nat × Value) => t.setIfInBounds p.1 p.2) #[.pointer (some ⟨b, 0, none⟩), .slice ao0 zs.length cap0, .pointer (some ⟨w.heap.size, 0, none⟩), undef, .slice none 0 0, .pointer (some ⟨o5, 0, none⟩), undef, undef, .slice ao0 zs.length cap0, .slice ao zs.length cap, .pointer (some ⟨b, 0, none⟩), .slice ao zs.length cap, .func (.func 65) #[] #[.pointer (some ⟨o5 + 1 + 1, 0, none⟩), .pointer (some ⟨o5 + 1, 0, none⟩)], undef, undef, undef, undef, undef, undef, undef, undef, undef, undef] = #[.pointer (some ⟨b, 0, none⟩), .slice ao0 zs.length cap0, .pointer (some ⟨w.heap.size, 0, none⟩), undef, .slice none 0 0, .pointer (some ⟨o5, 0, none⟩), undef, undef, .slice ao0 zs.length cap0, .slice ao zs.length cap, .pointer (some ⟨b, 0, none⟩), .slice ao zs.length cap, .func (.func 65) #[] #[.pointer (some ⟨o5 + 1 + 1, 0, none⟩), .pointer (some ⟨o5 + 1, 0, none⟩)], .int .i64 (x.1 : Int), .int .i64 (x.2 : Int), undef, undef, undef, undef, undef, undef, undef, undef] := by simp [toldR]
    rw [e]
    gi_wp2
    exact hK
  case body =>
    rintro l pre ⟨f, t⟩ W hI hR
    clear hT
    have hID : SoI w b zs ao cap w.heap.size o5 (o5 + 1 + 1) (o5 + 1) pre W.drew := hI.keep (Kc.of_below ((Below.refl _ _).drew)) (Nat.le_refl _)
    obtain ⟨g, rfl, hrun⟩ := hID.run HB.out hn hR
    have HRun : Hid (∀ cap', Calls Try.prog 39 #[.slice (some ⟨g, f, none⟩) (t - f) cap', .func (.func 67) #[] #[.pointer (some ⟨W.drew.heap.size, 0, none⟩)]] (W.drew.alloc (.cells #[.pointer (some ⟨b, 0, none⟩)] 23)) fun e w' => e = .returned (.tuple #[]) ∧ Hid (goesR W0.heap.size (SoI w b zs (some ⟨g, 0, none⟩) cap w.heap.size o5 (o5 + 1 + 1) (o5 + 1)) (fun _ _ => False) (pre ++ [(f, t)]) W .normal { tmps := #[], defers := [] } w')) := fun cap' => by
      refine (hrun _ _ rfl rfl cap').mono ?_
      rintro e w' ⟨he, h1, h2⟩
      exact ⟨he, ⟨h2.size, fun k o hk => h2.same k o (by omega)⟩, h1⟩
    have c5 := hID.b5.cell
    have c2 := hID.b2.cell
    have c5a : ∀ o, (W.drew.alloc o).cell? ⟨o5, 0, none⟩ = some (.slice (some ⟨g, 0, none⟩) zs.length cap) := fun o => (hID.b5.alloc o).cell
    have q1 : f < t := hR.2.1
    have q2 : t ≤ zs.length := hR.2.2.1
    have q3 := HN.out.1
    have hmx : Try.prog.follows .mixedOrders = true := by kernel_rfl
    have c5b : ∀ o, (W.alloc o).drew.cell? ⟨o5, 0, none⟩ = some (.slice (some ⟨g, 0, none⟩) zs.length cap) := fun o => c5a o
    clear hrun hID hI hR HI2 HN
    gi_wp2_with fail
    refine region_round (F := Fence.wide) l hmx (by kernel_rfl) ?_
    refine wpAnyIn_take (i := 1) (v := .int .i64 (f : Int)) rfl rfl (by kernel_rfl) (by kernel_rfl) (by kernel_rfl) (fun _ _ _ h => h) ⟨Or.inl ⟨by rfl, by (intro w; go_simp)⟩, fun _ => rfl⟩ ?_
    refine wpAnyIn_take (i := 2) (v := .int .i64 (t : Int)) rfl rfl (by kernel_rfl) (by kernel_rfl) (by kernel_rfl) (fun _ _ _ h => h) ⟨Or.inl ⟨by rfl, by (intro w; go_simp)⟩, fun _ => rfl⟩ ?_
    refine wpAnyIn_ready (rs := [0, 4]) (by kernel_rfl) (by simp) ?_
    refine AllReadyIn.cons rfl (fun K hK => ?_) ?_
    · go_simp
      refine hK _ _ ?_
      clear hK K
      refine wpAnyIn_take (i := 3) (v := .slice (some ⟨g, f, none⟩) (t - f) (cap - f)) rfl rfl (by kernel_rfl) (by kernel_rfl) (by kernel_rfl) (fun _ _ _ h => h) ⟨Or.inl ⟨by rfl, by (intro w; go_simp; rw [if_pos (by omega), if_pos (by omega), if_neg (by omega)])⟩, fun _ => rfl⟩ ?_
      refine wpAnyIn_ready (rs := [4]) (by kernel_rfl) (by simp) ?_
      refine AllReadyIn.cons rfl (fun K hK => ?_) ?_
      · go_simp
        refine hK _ _ ?_
        clear hK K
        refine wpAnyIn_ready (rs := [5]) (by kernel_rfl) (by simp) ?_
        refine AllReadyIn.cons rfl (fun K hK => ?_) ?_
        · go_simp
          gi_wp2_with (first | (refine ⟨trivial, ?_⟩; gi_at_call 40; refine (callsIn_wide.2 (byc_any _ _)).mono ?_; rintro e W3 ⟨rfl, rfl⟩))
          try (refine hK _ _ ?_; clear hK K)
          refine wpAnyIn_ready (rs := [6]) (by kernel_rfl) (by simp) ?_
          refine AllReadyIn.cons rfl (fun K hK => ?_) AllReadyIn.nil
          go_simp
          gi_wp2_with (first | (refine ⟨trivial, ?_⟩; gi_at_call 39; refine (callsIn_wide.2 (HRun.out _)).mono ?_; rintro e W4 ⟨rfl, hend⟩))
          try (refine hK _ _ ?_; clear hK K)
          refine wpAnyIn_done (by kernel_rfl) ?_ _
          exact hend.out
        exact AllReadyIn.nil
      exact AllReadyIn.nil
    refine AllReadyIn.cons rfl (fun K hK => ?_) ?_
    · go_simp
      refine hK _ _ ?_
      clear hK K
      refine wpAnyIn_ready (rs := [0, 5]) (by kernel_rfl) (by simp) ?_
      refine AllReadyIn.cons rfl (fun K hK => ?_) ?_
      · go_simp
        refine hK _ _ ?_
        clear hK K
        refine wpAnyIn_take (i := 3) (v := .slice (some ⟨g, f, none⟩) (t - f) (cap - f)) rfl rfl (by kernel_rfl) (by kernel_rfl) (by kernel_rfl) (fun _ _ _ h => h) ⟨Or.inl ⟨by rfl, by (intro w; go_simp; rw [if_pos (by omega), if_pos (by omega), if_neg (by omega)])⟩, fun _ => rfl⟩ ?_
        refine wpAnyIn_ready (rs := [5]) (by kernel_rfl) (by simp) ?_
        refine AllReadyIn.cons rfl (fun K hK => ?_) ?_
        · go_simp
          gi_wp2_with (first | (refine ⟨trivial, ?_⟩; gi_at_call 40; refine (callsIn_wide.2 (byc_any _ _)).mono ?_; rintro e W3 ⟨rfl, rfl⟩))
          try (refine hK _ _ ?_; clear hK K)
          refine wpAnyIn_ready (rs := [6]) (by kernel_rfl) (by simp) ?_
          refine AllReadyIn.cons rfl (fun K hK => ?_) AllReadyIn.nil
          go_simp
          gi_wp2_with (first | (refine ⟨trivial, ?_⟩; gi_at_call 39; refine (callsIn_wide.2 (HRun.out _)).mono ?_; rintro e W4 ⟨rfl, hend⟩))
          try (refine hK _ _ ?_; clear hK K)
          refine wpAnyIn_done (by kernel_rfl) ?_ _
          exact hend.out
        exact AllReadyIn.nil
      refine AllReadyIn.cons rfl (fun K hK => ?_) ?_
      · go_simp
        gi_wp2_with (first | (refine ⟨trivial, ?_⟩; gi_at_call 40; refine (callsIn_wide.2 (byc_any _ _)).mono ?_; rintro e W3 ⟨rfl, rfl⟩))
        try (refine hK _ _ ?_; clear hK K)
        refine wpAnyIn_ready (rs := [0]) (by kernel_rfl) (by simp) ?_
        refine AllReadyIn.cons rfl (fun K hK => ?_) ?_
        · go_simp
          refine hK _ _ ?_
          clear hK K
          refine wpAnyIn_take (i := 3) (v := .slice (some ⟨g, f, none⟩) (t - f) (cap - f)) rfl rfl (by kernel_rfl) (by kernel_rfl) (by kernel_rfl) (fun _ _ _ h => h) ⟨Or.inl ⟨by rfl, by (intro w; go_simp; rw [if_pos (by omega), if_pos (by omega), if_neg (by omega)])⟩, fun _ => rfl⟩ ?_
          refine wpAnyIn_ready (rs := [6]) (by kernel_rfl) (by simp) ?_
          refine AllReadyIn.cons rfl (fun K hK => ?_) AllReadyIn.nil
          go_simp
          gi_wp2_with (first | (refine ⟨trivial, ?_⟩; gi_at_call 39; refine (callsIn_wide.2 (HRun.out _)).mono ?_; rintro e W4 ⟨rfl, hend⟩))
          try (refine hK _ _ ?_; clear hK K)
          refine wpAnyIn_done (by kernel_rfl) ?_ _
          exact hend.out
        exact AllReadyIn.nil
      exact AllReadyIn.nil
    exact AllReadyIn.nil
  case done =>
    rintro D xs W hD hS hI hK
    clear hT
    have c5 := hI.b5.cell
    have HI := hid hI
    clear hI
    gi_wp2
    refine ⟨by simp, .inl ⟨_, _, rfl, run_takeDeferred hK, ?_⟩⟩
    refine ⟨_, results_tmp rfl _ _ _, ?_⟩
    have hI := HI.out.keep (Kc.grown (N := W0.heap.size) (grownBy_putObj' W D (.deferred none)) (fun r e => by cases e; exact ⟨hD, _, hK, rfl⟩)) hz0
    refine ⟨.slice ao zs.length cap, rfl, ?_, hI.bel⟩
    have hlen : (srt clsP zs).length = zs.length := (sw_srt clsP zs).len
    refine ⟨ao, cap, by rw [hlen], by rw [hlen]; exact HN.out.1, fun e => by rw [hlen]; exact HN.out.2.1 e, fun j hj => ?_⟩
    rcases hI.row with h | ⟨g, T, R, h1, h2, _, _, _, _, h7, h8⟩
    · subst h; simp [srt] at hj
    · have hR := h8.fin hS
      subst hR
      refine ⟨g, 0, h1, h7.lt, ?_⟩
      rw [Nat.zero_add]
      exact h7.cell _ _ (List.getElem?_eq_getElem hj)
  case stop => intro D xs W _ h; exact h.elim
end Od
end Go.Proofs.Ytpegpagdhaijjaa
