import Derived.Test.YtpegpagdhaijjaaOrd20
namespace Go.Proofs.Ytpegpagdhaijjaa
namespace Od
open Go.RowKit

attribute [local go_sem] Oper.semAt_some
set_option maxRecDepth 100000 in
set_option maxHeartbeats 4000000 in
theorem oruns_any {w : World} {b : Nat} {v : Value} {zs : List Int} (hB : Bk w b) (hS : Sl .i32 w v zs) (hn : zs.length ≤ 1000000) :
    Calls Try.prog 16 #[.pointer (some ⟨b, 0, none⟩), v] w fun e w' => ∃ v', e = .returned v' ∧ Ps w' v' (runsP clsP zs) ∧ Below w.heap.size w w' := by
  have HB := hid hB
  obtain ⟨ao, cap, rfl, hS⟩ := hS
  have HS := hid hS
  have HI2 : Hid (RuI w b zs ao cap w.heap.size (w.heap.size + 1 + 1) (w.heap.size + 1) (w.heap.size + 1 + 1 + 1) [] (((w.alloc (.cells #[.slice none 0 0] 33)).alloc (.cells #[.pointer (some ⟨b, 0, none⟩)] 23)).alloc (.cells #[.slice ao zs.length cap] 22))) := by
    refine ⟨((((Below.refl _ _).alloc (Nat.le_refl _) _).alloc (by simp) _).alloc (by simp; omega) _), ?_, ?_, ⟨Nat.le_refl _, Nat.zero_le _⟩, by simp, none, 0, ((Bx.new w _ _).alloc _).alloc _, World.ownsRow_nil _ _ _ _⟩
    · have := Bx.new ((w.alloc (.cells #[.slice none 0 0] 33)).alloc (.cells #[.pointer (some ⟨b, 0, none⟩)] 23)) (.slice ao zs.length cap) 22
      simpa using this
    · have := (Bx.new (w.alloc (.cells #[.slice none 0 0] 33)) (.pointer (some ⟨b, 0, none⟩)) 23).alloc (.cells #[.slice ao zs.length cap] 22)
      simpa using this
  clear hB hS
  obtain ⟨i0, hi, hz0, hz1, hz2⟩ := info_parts Try.info_p2
  have HIn := hid (And.intro hi (And.intro hz0 (And.intro hz1 hz2)))
  clear hi hz0 hz1 hz2
  refine (callsIn_wide (n := 6)).1 ?_
  refine callsIn_of_wp_marks Try.func16 rfl trivial ?_ rfl
  simp only [Try.ntmps16, List.size_toArray, List.length_cons, List.length_nil, Nat.reduceAdd, Nat.reduceSub, Array.replicate_succ, Array.replicate_zero, List.push_toArray, List.append_toArray, List.nil_append, List.cons_append]
  gi_wp2_with (first | (refine ⟨trivial, ?_⟩; gi_at_call 38; refine (callsIn_wide.2 (runs_any _ _ _ _ _)).mono ?_; rintro e w' ⟨rfl, rfl⟩))
  obtain ⟨W0, hW0⟩ : ∃ W0, W0 = (((w.alloc (.cells #[.slice none 0 0] 33)).alloc (.cells #[.pointer (some ⟨b, 0, none⟩)] 23)).alloc (.cells #[.slice ao zs.length cap] 22)) := ⟨_, rfl⟩
  rw [← hW0] at HI2 ⊢
  have hT := runs1_tells 5 b ao cap (w.heap.size + 1 + 1) (w.heap.size + 1) (by omega) zs hn W0
  have hz0 : w.heap.size ≤ W0.heap.size := HI2.out.bel.size
  have hz3 : W0.heap.size = w.heap.size + 1 + 1 + 1 := by rw [hW0]; simp
  have Hz3 := hid hz3
  clear hW0 hz3
  refine wpIn_told2 rfl (by omega) (gf := 65) (lb := #[.pointer (some ⟨w.heap.size + 1 + 1, 0, none⟩), .pointer (some ⟨w.heap.size + 1, 0, none⟩)]) rfl trivial (enters_of Try.func65 (by kernel_rfl) rfl) hT (fun _ => rfl)
    (RuI w b zs ao cap w.heap.size (w.heap.size + 1 + 1) (w.heap.size + 1) (w.heap.size + 1 + 1 + 1)) (fun _ _ => False) (fun pre A B h hk => h.keep hk hz0) (fun _ _ _ h _ => h) (fun pre A h => h.ne HB.out HS.out) HI2.out
    (fun x => { tmps := #[.pointer (some ⟨b, 0, none⟩), .slice ao zs.length cap, undef, undef, .slice none 0 0, .pointer (some ⟨w.heap.size, 0, none⟩), .int .i64 (x.1 : Int), .int .i64 (x.2 : Int), .pointer (some ⟨b, 0, none⟩), .slice ao zs.length cap, .func (.func 65) #[] #[.pointer (some ⟨w.heap.size + 1 + 1, 0, none⟩), .pointer (some ⟨w.heap.size + 1, 0, none⟩)], .int .i64 (x.1 : Int), .int .i64 (x.2 : Int), undef, undef, undef, undef, undef, undef, undef], defers := [] }) ?assign ?body ?done ?stop
  case assign =>
    intro l x W K hK
    have e : (#[11, 12].zip (toldR x)).foldl (fun (t : Array Value) (p : Nat × Value) => t.setIfInBounds p.1 p.2) #[.pointer (some ⟨b, 0, none⟩), .slice ao zs.length cap, undef, undef, .slice none 0 0, .pointer (some ⟨w.heap.size, 0, none⟩), undef, undef, .pointer (some ⟨b, 0, none⟩), .slice ao zs.length cap, .func (.func 65) #[] #[.pointer (some ⟨w.heap.size + 1 + 1, 0, none⟩), .pointer (some ⟨w.heap.size + 1, 0, none⟩)], undef, undef, undef, undef, undef, undef, undef, undef, undef] = #[.pointer (some ⟨b, 0, none⟩), .slice ao zs.length cap, undef, undef, .slice none 0 0, .pointer (some ⟨w.heap.size, 0, none⟩), undef, undef, .pointer (some ⟨b, 0, none⟩), .slice ao zs.length cap, .func (.func 65) #[] #[.pointer (some ⟨w.heap.size + 1 + 1, 0, none⟩), .pointer (some ⟨w.heap.size + 1, 0, none⟩)], .int .i64 (x.1 : Int), .int .i64 (x.2 : Int), undef, undef, undef, undef, undef, undef, undef] := by simp [toldR]
    rw [e]
    gi_wp2
    exact hK
  case body =>
    rintro l pre ⟨f, t⟩ W hI hR
    clear hT
    obtain ⟨ao', cap', hbx, hown⟩ := hI.row
    have c5 := hbx.cell
    have HOw := hid hown
    have HPut := hid (fun v' w' h1 h2 => hI.put hR (by omega) (u := .slice ao' pre.length cap') (v' := v') (w' := w') hown h1 h2)
    have hpl : pre.length ≤ 1000000 := Nat.le_trans (Nat.le_trans hI.fit.1 hI.fit.2) hn
    have hbg := hI.big
    clear hbx hown hI hR HI2
    gi_wp2_with (first | (gi_at_builtin; refine wpListIn_append_own _ rfl (.tmp 13) (.tmp 17) 33 rfl (w.heap.size + 1 + 1 + 1) 36 i0 (.agg #[.int .i64 0, .int .i64 0]) 2 16 Try.underlying33 HIn.out.1 HIn.out.2.1 HIn.out.2.2.1 HIn.out.2.2.2 rfl (by decide) (.slice ao' pre.length cap') pre.length (pre.flatMap p2) rfl (HOw.out.alloc _) ⟨W.heap.size, 0, none⟩ 1 1 (p2 (f, t)) rfl rfl (World.news_of_block (heap_new W _)) (fun u hu => by simp [p2] at hu; rcases hu with rfl | rfl <;> rfl) (by unfold maxLen; omega) (by omega) (by simp; omega) (fun v' w' h1 h2 _ => ?_); obtain ⟨ao2, cap2, rfl, hcell, hfz, hkp, hri⟩ := HPut.out v' w' h1 h2; rw [c5] at hcell; have HEnd := hid (And.intro hkp hri); clear h1 h2 hkp hri))
    refine ⟨?_, HEnd.out.2⟩
    rw [Hz3.out]
    exact HEnd.out.1
  case done =>
    rintro D xs W hD hS hI hK
    clear hT
    obtain ⟨ao', cap', hbx, hown⟩ := hI.row
    have c5 := hbx.cell
    have hkc : Kc W0.heap.size W (W.putObj D (.deferred none)) := Kc.grown (grownBy_putObj' _ D (.deferred none)) (fun r e => by cases e; exact ⟨hD, _, hK, rfl⟩)
    have HE : Hid (Ps (W.putObj D (.deferred none)) (.slice ao' xs.length cap') (runsP clsP zs) ∧ Below w.heap.size w (W.putObj D (.deferred none))) := by
      rw [← hS.1]
      exact ⟨own_ps (own_kc hkc hown), hkc.below hI.bel hz0 (Nat.le_refl _)⟩
    clear hI hbx hown hkc
    gi_wp2
    refine ⟨by simp, .inl ⟨_, _, rfl, run_takeDeferred hK, ?_⟩⟩
    refine ⟨_, results_tmp rfl _ _ _, ?_⟩
    exact ⟨.slice ao' xs.length cap', rfl, HE.out.1, HE.out.2⟩
  case stop => intro D xs W _ h; exact h.elim
end Od
end Go.Proofs.Ytpegpagdhaijjaa
