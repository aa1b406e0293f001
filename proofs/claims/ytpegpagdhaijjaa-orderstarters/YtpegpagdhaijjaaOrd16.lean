import Derived.Test.YtpegpagdhaijjaaOrd15
namespace Go.Proofs.Ytpegpagdhaijjaa
namespace Od
open Go.RowKit

attribute [local go_sem] Oper.semAt_some
set_option maxRecDepth 100000 in
set_option maxHeartbeats 4000000 in
theorem sorted_any {w : World} {b : Nat} {v : Value} {zs : List Int} (hB : Bk w b) (hS : Sl .i32 w v zs) (hn : zs.length ≤ 1000000) :
    Calls Try.prog 15 #[.pointer (some ⟨b, 0, none⟩), v] w fun e w' => e = .returned (.bool (decide (srt clsP zs = zs))) ∧ Below w.heap.size w w' := by
  have HB := hid hB
  obtain ⟨ao, cap, rfl, hS⟩ := hS
  have HS := hid hS
  have HI2 : Hid (SdI w b zs ao cap w.heap.size (w.heap.size + 1) (w.heap.size + 1 + 1) (w.heap.size + 1 + 1 + 1 + 1) (w.heap.size + 1 + 1 + 1) [] (((((w.alloc (.cells #[.pointer (some ⟨b, 0, none⟩)] 23)).alloc (.cells #[.slice ao zs.length cap] 22)).alloc (.cells #[.bool false] 4)).alloc (.cells #[.pointer (some ⟨b, 0, none⟩)] 23)).alloc (.cells #[.slice ao zs.length cap] 22))) := by
    refine ⟨((((((Below.refl _ _).alloc (Nat.le_refl _) _).alloc (by simp) _).alloc (by simp; omega) _).alloc (by simp; omega) _).alloc (by simp; omega) _), ((((Bx.new w _ _).alloc _).alloc _).alloc _).alloc _, ?_, ?_, ?_, ?_, trivial⟩
    · have := (((Bx.new (w.alloc (.cells #[.pointer (some ⟨b, 0, none⟩)] 23)) (.slice ao zs.length cap) 22).alloc (.cells #[.bool false] 4)).alloc (.cells #[.pointer (some ⟨b, 0, none⟩)] 23)).alloc (.cells #[.slice ao zs.length cap] 22)
      simpa using this
    · have := ((Bx.new ((w.alloc (.cells #[.pointer (some ⟨b, 0, none⟩)] 23)).alloc (.cells #[.slice ao zs.length cap] 22)) (.bool false) 4).alloc (.cells #[.pointer (some ⟨b, 0, none⟩)] 23)).alloc (.cells #[.slice ao zs.length cap] 22)
      simpa using this
    · have := Bx.new ((((w.alloc (.cells #[.pointer (some ⟨b, 0, none⟩)] 23)).alloc (.cells #[.slice ao zs.length cap] 22)).alloc (.cells #[.bool false] 4)).alloc (.cells #[.pointer (some ⟨b, 0, none⟩)] 23)) (.slice ao zs.length cap) 22
      simpa using this
    · have := (Bx.new (((w.alloc (.cells #[.pointer (some ⟨b, 0, none⟩)] 23)).alloc (.cells #[.slice ao zs.length cap] 22)).alloc (.cells #[.bool false] 4)) (.pointer (some ⟨b, 0, none⟩)) 23).alloc (.cells #[.slice ao zs.length cap] 22)
      simpa using this
  clear hB hS
  refine (callsIn_wide (n := 6)).1 ?_
  refine callsIn_of_wp_marks Try.func15 rfl trivial ?_ rfl
  simp only [Try.ntmps15, List.size_toArray, List.length_cons, List.length_nil, Nat.reduceAdd, Nat.reduceSub, Array.replicate_succ, Array.replicate_zero, List.push_toArray, List.append_toArray, List.nil_append, List.cons_append]
  gi_wp2_with (first | (refine ⟨trivial, ?_⟩; gi_at_call 38; refine (callsIn_wide.2 (runs_any _ _ _ _ _)).mono ?_; rintro e w' ⟨rfl, rfl⟩))
  obtain ⟨W0, hW0⟩ : ∃ W0, W0 = (((((w.alloc (.cells #[.pointer (some ⟨b, 0, none⟩)] 23)).alloc (.cells #[.slice ao zs.length cap] 22)).alloc (.cells #[.bool false] 4)).alloc (.cells #[.pointer (some ⟨b, 0, none⟩)] 23)).alloc (.cells #[.slice ao zs.length cap] 22)) := ⟨_, rfl⟩
  rw [← hW0] at HI2 ⊢
  have hT := runs1_tells 5 b ao cap (w.heap.size + 1 + 1 + 1 + 1) (w.heap.size + 1 + 1 + 1) (by omega) zs hn W0
  have hz0 : w.heap.size ≤ W0.heap.size := HI2.out.bel.size
  clear hW0
  refine wpIn_told2 rfl (by omega) (gf := 65) (lb := #[.pointer (some ⟨w.heap.size + 1 + 1 + 1 + 1, 0, none⟩), .pointer (some ⟨w.heap.size + 1 + 1 + 1, 0, none⟩)]) rfl trivial (enters_of Try.func65 (by kernel_rfl) rfl) hT (fun _ => rfl)
    (SdI w b zs ao cap w.heap.size (w.heap.size + 1) (w.heap.size + 1 + 1) (w.heap.size + 1 + 1 + 1 + 1) (w.heap.size + 1 + 1 + 1)) (SdX w zs (w.heap.size + 1 + 1)) (fun pre A B h hk => h.keep hk hz0) (fun pre A B h hk => h.keep hk hz0) (fun pre A h => h.ne HB.out HS.out) HI2.out
    (fun x => { tmps := #[.pointer (some ⟨b, 0, none⟩), .slice ao zs.length cap, .pointer (some ⟨w.heap.size, 0, none⟩), .pointer (some ⟨w.heap.size + 1, 0, none⟩), .pointer (some ⟨w.heap.size + 1 + 1, 0, none⟩), .int .i64 (x.1 : Int), .int .i64 (x.2 : Int), .pointer (some ⟨b, 0, none⟩), .slice ao zs.length cap, .func (.func 65) #[] #[.pointer (some ⟨w.heap.size + 1 + 1 + 1 + 1, 0, none⟩), .pointer (some ⟨w.heap.size + 1 + 1 + 1, 0, none⟩)], .int .i64 (x.1 : Int), .int .i64 (x.2 : Int), undef, undef, undef, undef, undef, undef, undef, undef], defers := [] }) ?assign ?body ?done ?stop
  case assign =>
    intro l x W K hK
    have e : (#[10, 11].zip (toldR x)).foldl (fun (t : Array Value) (p : Nat × Value) => t.setIfInBounds p.1 p.2) #[.pointer (some ⟨b, 0, none⟩), .slice ao zs.length cap, .pointer (some ⟨w.heap.size, 0, none⟩), .pointer (some ⟨w.heap.size + 1, 0, none⟩), .pointer (some ⟨w.heap.size + 1 + 1, 0, none⟩), undef, undef, .pointer (some ⟨b, 0, none⟩), .slice ao zs.length cap, .func (.func 65) #[] #[.pointer (some ⟨w.heap.size + 1 + 1 + 1 + 1, 0, none⟩), .pointer (some ⟨w.heap.size + 1 + 1 + 1, 0, none⟩)], undef, undef, undef, undef, undef, undef, undef, undef, undef, undef] = #[.pointer (some ⟨b, 0, none⟩), .slice ao zs.length cap, .pointer (some ⟨w.heap.size, 0, none⟩), .pointer (some ⟨w.heap.size + 1, 0, none⟩), .pointer (some ⟨w.heap.size + 1 + 1, 0, none⟩), undef, undef, .pointer (some ⟨b, 0, none⟩), .slice ao zs.length cap, .func (.func 65) #[] #[.pointer (some ⟨w.heap.size + 1 + 1 + 1 + 1, 0, none⟩), .pointer (some ⟨w.heap.size + 1 + 1 + 1, 0, none⟩)], .int .i64 (x.1 : Int), .int .i64 (x.2 : Int), undef, undef, undef, undef, undef, undef, undef, undef] := by simp [toldR]
    rw [e]
    gi_wp2
    exact hK
  case body =>
    rintro l pre ⟨f, t⟩ W hI hR
    clear hT
    have hID : SdI w b zs ao cap w.heap.size (w.heap.size + 1) (w.heap.size + 1 + 1) (w.heap.size + 1 + 1 + 1 + 1) (w.heap.size + 1 + 1 + 1) pre W.drew := hI.keep (Kc.of_below ((Below.refl _ _).drew)) (Nat.le_refl _)
    have q1 : f < t := hR.2.1
    have q2 : t ≤ zs.length := hR.2.2.1
    have q3 := HS.out.fits
    obtain ⟨g, off, rfl, hrun⟩ := hID.run HB.out hn HS.out hR
    have HRun := hid (hrun _ _ rfl rfl)
    have c3 := hID.b3.cell
    have c2 := hID.b2.cell
    have c3a : ∀ o, (W.drew.alloc o).cell? ⟨w.heap.size + 1, 0, none⟩ = some (.slice (some ⟨g, off, none⟩) zs.length cap) := fun o => (hID.b3.alloc o).cell
    have c3b : ∀ o, (W.alloc o).drew.cell? ⟨w.heap.size + 1, 0, none⟩ = some (.slice (some ⟨g, off, none⟩) zs.length cap) := fun o => c3a o
    have hmx : Try.prog.follows .mixedOrders = true := by kernel_rfl
    have hcc : t - f ≤ cap - f := by omega
    have hkd : ∀ C X, KeepsFrom C W.drew X → KeepsFrom C W X := fun C X h => ⟨h.size, h.same⟩
    clear hID hI hR HI2 hrun
    gi_wp2_with fail
    refine region_round (F := Fence.wide) l hmx (by kernel_rfl) ?_
    refine wpAnyIn_take (i := 1) (v := .int .i64 (f : Int)) rfl rfl (by kernel_rfl) (by kernel_rfl) (by kernel_rfl) (fun _ _ _ h => h) ⟨Or.inl ⟨by rfl, by (intro w; go_simp)⟩, fun _ => rfl⟩ ?_
    refine wpAnyIn_take (i := 2) (v := .int .i64 (t : Int)) rfl rfl (by kernel_rfl) (by kernel_rfl) (by kernel_rfl) (fun _ _ _ h => h) ⟨Or.inl ⟨by rfl, by (intro w; go_simp)⟩, fun _ => rfl⟩ ?_
    refine wpAnyIn_ready (rs := [0, 4]) (by kernel_rfl) (by simp) ?_
    refine AllReadyIn.cons rfl (fun K hK => ?_) ?_
    · go_simp
      refine hK _ _ ?_
      clear hK K
      refine wpAnyIn_take (i := 3) (v := .slice (some ⟨g, off + f, none⟩) (t - f) (cap - f)) rfl rfl (by kernel_rfl) (by kernel_rfl) (by kernel_rfl) (fun _ _ _ h => h) ⟨Or.inl ⟨by rfl, by (intro w; go_simp; rw [if_pos (by omega), if_pos (by omega), if_neg (by omega)])⟩, fun _ => rfl⟩ ?_
      refine wpAnyIn_ready (rs := [4]) (by kernel_rfl) (by simp) ?_
      refine AllReadyIn.cons rfl (fun K hK => ?_) ?_
      · go_simp
        refine hK _ _ ?_
        clear hK K
        refine wpAnyIn_ready (rs := [5]) (by kernel_rfl) (by simp) ?_
        refine AllReadyIn.cons rfl (fun K hK => ?_) ?_
        · go_simp
          gi_wp2_with (first | (refine ⟨trivial, ?_⟩; gi_at_call 40; refine (callsIn_wide.2 (byc_any _ _)).mono ?_; rintro e W3 ⟨rfl, rfl⟩))
          try (refine hK _ _ ?_; clear hK K)
          refine wpAnyIn_ready (rs := [6]) (by kernel_rfl) (by simp) ?_
          refine AllReadyIn.cons rfl (fun K hK => ?_) AllReadyIn.nil
          go_simp
          gi_wp2_with (first | (refine ⟨trivial, ?_⟩; gi_at_call 42; refine (callsIn_wide.2 (HRun.out _ hcc)).mono ?_; rintro e W4 ⟨r, rfl, hend⟩; have HEnd := hid hend; clear hend))
          try (refine hK _ _ ?_; clear hK K)
          refine wpAnyIn_take (i := 7) (v := .bool (!r)) rfl rfl (by kernel_rfl) (by kernel_rfl) (by kernel_rfl) (fun _ _ _ h => h) ⟨Or.inl ⟨by rfl, by (intro w; go_simp)⟩, fun _ => rfl⟩ ?_
          refine wpAnyIn_done (by kernel_rfl) ?_ _
          cases r with
          | true =>
            gi_wp2_with fail
            exact ⟨hkd _ _ (HEnd.out.1 _), HEnd.out.2.1 (by first | rfl | trivial)⟩
          | false =>
            have hx := HEnd.out.2.2 rfl
            have cx := hx.2.1.cell
            have fx := hx.2.1.frozen
            have HX := hid (And.intro (hkd _ _ (HEnd.out.1 W0.heap.size)) hx)
            clear hx HEnd
            gi_wp2_with fail
            exact ⟨HX.out.1.trans ((KeepsOthers.setCell _ _ _).from _), HX.out.2.1.setCell (p := ⟨w.heap.size + 1 + 1, 0, none⟩) (by show _ ≤ w.heap.size + 1 + 1; omega) _, HX.out.2.2.1.set _, HX.out.2.2.2⟩
        exact AllReadyIn.nil
      exact AllReadyIn.nil
    refine AllReadyIn.cons rfl (fun K hK => ?_) ?_
    · go_simp
      refine hK _ _ ?_
      clear hK K
      refine wpAnyIn_ready (rs := [0, 5]) (by kernel_rfl) (by simp) ?_
      refine AllReadyIn.cons rfl (fun K hK => ?_) ?_
      · go_simp
        refine hK _ _ ?_
        clear hK K
        refine wpAnyIn_take (i := 3) (v := .slice (some ⟨g, off + f, none⟩) (t - f) (cap - f)) rfl rfl (by kernel_rfl) (by kernel_rfl) (by kernel_rfl) (fun _ _ _ h => h) ⟨Or.inl ⟨by rfl, by (intro w; go_simp; rw [if_pos (by omega), if_pos (by omega), if_neg (by omega)])⟩, fun _ => rfl⟩ ?_
        refine wpAnyIn_ready (rs := [5]) (by kernel_rfl) (by simp) ?_
        refine AllReadyIn.cons rfl (fun K hK => ?_) ?_
        · go_simp
          gi_wp2_with (first | (refine ⟨trivial, ?_⟩; gi_at_call 40; refine (callsIn_wide.2 (byc_any _ _)).mono ?_; rintro e W3 ⟨rfl, rfl⟩))
          try (refine hK _ _ ?_; clear hK K)
          refine wpAnyIn_ready (rs := [6]) (by kernel_rfl) (by simp) ?_
          refine AllReadyIn.cons rfl (fun K hK => ?_) AllReadyIn.nil
          go_simp
          gi_wp2_with (first | (refine ⟨trivial, ?_⟩; gi_at_call 42; refine (callsIn_wide.2 (HRun.out _ hcc)).mono ?_; rintro e W4 ⟨r, rfl, hend⟩; have HEnd := hid hend; clear hend))
          try (refine hK _ _ ?_; clear hK K)
          refine wpAnyIn_take (i := 7) (v := .bool (!r)) rfl rfl (by kernel_rfl) (by kernel_rfl) (by kernel_rfl) (fun _ _ _ h => h) ⟨Or.inl ⟨by rfl, by (intro w; go_simp)⟩, fun _ => rfl⟩ ?_
          refine wpAnyIn_done (by kernel_rfl) ?_ _
          cases r with
          | true =>
            gi_wp2_with fail
            exact ⟨hkd _ _ (HEnd.out.1 _), HEnd.out.2.1 (by first | rfl | trivial)⟩
          | false =>
            have hx := HEnd.out.2.2 rfl
            have cx := hx.2.1.cell
            have fx := hx.2.1.frozen
            have HX := hid (And.intro (hkd _ _ (HEnd.out.1 W0.heap.size)) hx)
            clear hx HEnd
            gi_wp2_with fail
            exact ⟨HX.out.1.trans ((KeepsOthers.setCell _ _ _).from _), HX.out.2.1.setCell (p := ⟨w.heap.size + 1 + 1, 0, none⟩) (by show _ ≤ w.heap.size + 1 + 1; omega) _, HX.out.2.2.1.set _, HX.out.2.2.2⟩
        exact AllReadyIn.nil
      refine AllReadyIn.cons rfl (fun K hK => ?_) ?_
      · go_simp
        gi_wp2_with (first | (refine ⟨trivial, ?_⟩; gi_at_call 40; refine (callsIn_wide.2 (byc_any _ _)).mono ?_; rintro e W3 ⟨rfl, rfl⟩))
        try (refine hK _ _ ?_; clear hK K)
        refine wpAnyIn_ready (rs := [0]) (by kernel_rfl) (by simp) ?_
        refine AllReadyIn.cons rfl (fun K hK => ?_) ?_
        · go_simp
          refine hK _ _ ?_
          clear hK K
          refine wpAnyIn_take (i := 3) (v := .slice (some ⟨g, off + f, none⟩) (t - f) (cap - f)) rfl rfl (by kernel_rfl) (by kernel_rfl) (by kernel_rfl) (fun _ _ _ h => h) ⟨Or.inl ⟨by rfl, by (intro w; go_simp; rw [if_pos (by omega), if_pos (by omega), if_neg (by omega)])⟩, fun _ => rfl⟩ ?_
          refine wpAnyIn_ready (rs := [6]) (by kernel_rfl) (by simp) ?_
          refine AllReadyIn.cons rfl (fun K hK => ?_) AllReadyIn.nil
          go_simp
          gi_wp2_with (first | (refine ⟨trivial, ?_⟩; gi_at_call 42; refine (callsIn_wide.2 (HRun.out _ hcc)).mono ?_; rintro e W4 ⟨r, rfl, hend⟩; have HEnd := hid hend; clear hend))
          try (refine hK _ _ ?_; clear hK K)
          refine wpAnyIn_take (i := 7) (v := .bool (!r)) rfl rfl (by kernel_rfl) (by kernel_rfl) (by kernel_rfl) (fun _ _ _ h => h) ⟨Or.inl ⟨by rfl, by (intro w; go_simp)⟩, fun _ => rfl⟩ ?_
          refine wpAnyIn_done (by kernel_rfl) ?_ _
          cases r with
          | true =>
            gi_wp2_with fail
            exact ⟨hkd _ _ (HEnd.out.1 _), HEnd.out.2.1 (by first | rfl | trivial)⟩
          | false =>
            have hx := HEnd.out.2.2 rfl
            have cx := hx.2.1.cell
            have fx := hx.2.1.frozen
            have HX := hid (And.intro (hkd _ _ (HEnd.out.1 W0.heap.size)) hx)
            clear hx HEnd
            gi_wp2_with fail
            exact ⟨HX.out.1.trans ((KeepsOthers.setCell _ _ _).from _), HX.out.2.1.setCell (p := ⟨w.heap.size + 1 + 1, 0, none⟩) (by show _ ≤ w.heap.size + 1 + 1; omega) _, HX.out.2.2.1.set _, HX.out.2.2.2⟩
        exact AllReadyIn.nil
      exact AllReadyIn.nil
    exact AllReadyIn.nil
  case done =>
    rintro D xs W hD hS hI hK
    clear hT
    have c4 := hI.b4.cell
    have f4 := hI.b4.frozen
    have HA := hid (all_ord hS hI.ord)
    have hDo : D ≠ w.heap.size + 1 + 1 := by
      intro e
      have h4 : W.heap[w.heap.size + 1 + 1]? = _ := hI.b4
      rw [e, h4] at hK
      cases hK
    have hK1 : (W.setCell ⟨w.heap.size + 1 + 1, 0, none⟩ (.bool true)).heap[D]? = some (.deferred (some [])) := (Below.heap_setCell _ _ _ _ hDo).trans hK
    have hkc : Kc W0.heap.size (W.setCell ⟨w.heap.size + 1 + 1, 0, none⟩ (.bool true)) ((W.setCell ⟨w.heap.size + 1 + 1, 0, none⟩ (.bool true)).putObj D (.deferred none)) := Kc.grown (grownBy_putObj' _ D (.deferred none)) (fun r e => by cases e; exact ⟨hD, _, hK1, rfl⟩)
    have HE : Hid (((W.setCell ⟨w.heap.size + 1 + 1, 0, none⟩ (.bool true)).putObj D (.deferred none)).cell? ⟨w.heap.size + 1 + 1, 0, none⟩ = some (.bool true) ∧ Below w.heap.size w ((W.setCell ⟨w.heap.size + 1 + 1, 0, none⟩ (.bool true)).putObj D (.deferred none))) :=
      ⟨(hkc.bx (hI.b4.set _)).cell, hkc.below (hI.bel.setCell (p := ⟨w.heap.size + 1 + 1, 0, none⟩) (by show _ ≤ w.heap.size + 1 + 1; omega) _) hz0 (Nat.le_refl _)⟩
    have HK1 := hid hK1
    clear hI hS hkc hK1
    gi_wp2
    refine ⟨by simp, .inl ⟨_, _, rfl, run_takeDeferred HK1.out, ?_⟩⟩
    refine ⟨.bool true, ?_, ?_⟩
    · simp [results, Try.results15, go_sem, HE.out.1]
    · exact ⟨ret_bool (decide_eq_true HA.out.srt_eq).symm, HE.out.2⟩
  case stop =>
    intro D xs W hD h hK
    clear hT
    have hkc : Kc W0.heap.size W (W.putObj D (.deferred none)) := Kc.grown (grownBy_putObj' _ D (.deferred none)) (fun r e => by cases e; exact ⟨hD, _, hK, rfl⟩)
    have HE : Hid ((W.putObj D (.deferred none)).cell? ⟨w.heap.size + 1 + 1, 0, none⟩ = some (.bool false) ∧ Below w.heap.size w (W.putObj D (.deferred none)) ∧ ¬ Ord clsP zs) := ⟨(hkc.bx h.2.1).cell, hkc.below h.1 hz0 (Nat.le_refl _), h.2.2⟩
    clear h hkc
    gi_wp2
    refine ⟨by simp, .inl ⟨_, _, rfl, run_takeDeferred hK, ?_⟩⟩
    refine ⟨.bool false, ?_, ?_⟩
    · simp [results, Try.results15, go_sem, HE.out.1]
    · exact ⟨ret_bool (decide_eq_false (fun e => HE.out.2.2 ((ord_iff clsP zs).2 e))).symm, HE.out.2.1⟩
end Od
end Go.Proofs.Ytpegpagdhaijjaa
