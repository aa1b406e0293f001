import Derived.Test.YthdchapieninbaaEsc6
namespace Go.Proofs.Ythdchapieninbaa
open Go.RowKit

attribute [local go_sem] Oper.semAt_some

theorem all_any (s : ByteArray) (w : World) :
    Calls Try.prog 38 #[.string s] w fun e w' => e = .returned (.func (.func 47) #[] #[.pointer (some ⟨w.heap.size, 0, none⟩)]) ∧ w' = w.alloc (.cells #[.string s] 9) := by
  go_enter Try.func38, Try.ntmps38
  go_wp2
  go_ret
  exact ⟨rfl, rfl⟩

theorem kept_trans {Bs : Nat} {A B C : World} (h : Kept1 Bs A B) (k : Kept1 Bs B C) : Kept1 Bs A C := fun v hv => k v (h v hv)
theorem kept_put {Bs : Nat} (W : World) (l : Nat) (o o' : Obj) (h : W.heap[l]? = some o) (ho : o.isCells = false) : Kept1 Bs W (W.putObj l o') := by
  intro v hv
  by_cases e : Bs = l
  · subst e
    exfalso
    cases o <;> simp_all [World.cell?, Obj.isCells]
  · have : (W.putObj l o').heap[Bs]? = W.heap[Bs]? := World.putObj_heap_other e
    rw [← hv]; exact World.cell?_of_block (a := ⟨Bs, 0, none⟩) this

theorem escs_len : ∀ (l : List UInt8) (k : Nat), (escs k l).length ≤ l.length
  | [], k => Nat.le_refl _
  | [_], k => Nat.zero_le _
  | [_, _], k => Nat.zero_le _
  | a :: b :: c :: r, k => by
    rw [escs]
    split
    · have := escs_len r (k + 3)
      simp only [List.length_cons]; omega
    · have := escs_len (b :: c :: r) (k + 1)
      simp only [List.length_cons] at this ⊢; omega

set_option maxRecDepth 100000 in
set_option maxHeartbeats 2000000 in
theorem count_any (s : ByteArray) (w : World) (hs : s.size ≤ 1000000) :
    Calls Try.prog 29 #[.string s] w fun e w' => e = .returned (.int .i64 (escs 0 s.data.toList).length) ∧ Below w.heap.size w w' := by
  have HM : Hid (s.size ≤ maxLen) := by show _ ≤ _; unfold maxLen; omega
  refine (callsIn_wide (n := 6)).1 ?_
  refine callsIn_of_wp_marks Try.func29 rfl trivial ?_ rfl
  simp only [Try.ntmps29, List.size_toArray, List.length_cons, List.length_nil, Nat.reduceAdd, Nat.reduceSub, Array.replicate_succ, Array.replicate_zero, List.push_toArray, List.append_toArray, List.nil_append, List.cons_append]
  gi_wp2_with (first | (refine ⟨trivial, ?_⟩; gi_at_call 38; refine (callsIn_wide.2 (all_any _ _)).mono ?_; rintro e w' ⟨rfl, rfl⟩))
  have hc0 : ((w.alloc (.cells #[.int .i64 0] 3)).alloc (.cells #[.string s] 9)).cell? ⟨w.heap.size, 0, none⟩ = some (.int .i64 0) := by simp
  have hf0 : ((w.alloc (.cells #[.int .i64 0] 3)).alloc (.cells #[.string s] 9)).frozen? ⟨w.heap.size, 0, none⟩ = false := by simp
  have hcs : ((w.alloc (.cells #[.int .i64 0] 3)).alloc (.cells #[.string s] 9)).cell? ⟨w.heap.size + 1, 0, none⟩ = some (.string s) := by simp
  have hb0 : Below w.heap.size w ((w.alloc (.cells #[.int .i64 0] 3)).alloc (.cells #[.string s] 9)) := ((Below.refl _ w).alloc (Nat.le_refl _) _).alloc (by simp) _
  have hz0 : ((w.alloc (.cells #[.int .i64 0] 3)).alloc (.cells #[.string s] 9)).heap.size = w.heap.size + 2 := by simp
  have hT := all1_tells 5 (w.heap.size + 1) (by omega) s HM.out ((w.alloc (.cells #[.int .i64 0] 3)).alloc (.cells #[.string s] 9)) (by simp) hcs
  generalize ((w.alloc (.cells #[.int .i64 0] 3)).alloc (.cells #[.string s] 9)) = W0 at *
  have hlen := escs_len s.data.toList 0
  rw [len_size] at hlen
  refine wpIn_told rfl (by omega) (gf := 47) (lb := #[.pointer (some ⟨w.heap.size + 1, 0, none⟩)]) rfl trivial (enters_of Try.func47 (by kernel_rfl) rfl) hT (fun h k => kept_trans h k) kept_put (fun _ => rfl)
    (fun pre W => (W.cell? ⟨w.heap.size, 0, none⟩ = some (.int .i64 pre.length) ∧ W.frozen? ⟨w.heap.size, 0, none⟩ = false) ∧ Below w.heap.size w W)
    (OwnFrom.and (Own.from (fun s A B row hs hg hr => ⟨cell_kept hs.1 hg hr, (frozen_kept hs.1 hg hr).trans hs.2⟩) _) (ownFrom_below (Nat.le_refl _) (by omega)))
    ⟨⟨hc0, hf0⟩, hb0⟩
    (fun x => { tmps := #[.string s, undef, .int .i64 0, .pointer (some ⟨w.heap.size, 0, none⟩), .string s, .func (.func 47) #[] #[.pointer (some ⟨w.heap.size + 1, 0, none⟩)], .int .i64 (x.1 : Int), .int .u8 (x.2.toNat : Int), undef, undef, undef], defers := [] }) ?assign ?body ?done
  case assign =>
    intro l x W K hK
    gi_wp2
    have e : (#[6, 7].zip (told x)).foldl (fun (t : Array Value) (p : Nat × Value) => t.setIfInBounds p.1 p.2) #[.string s, undef, .int .i64 0, .pointer (some ⟨w.heap.size, 0, none⟩), .string s, .func (.func 47) #[] #[.pointer (some ⟨w.heap.size + 1, 0, none⟩)], undef, undef, undef, undef, undef] = #[.string s, undef, .int .i64 0, .pointer (some ⟨w.heap.size, 0, none⟩), .string s, .func (.func 47) #[] #[.pointer (some ⟨w.heap.size + 1, 0, none⟩)], .int .i64 (x.1 : Int), .int .u8 (x.2.toNat : Int), undef, undef, undef] := by simp [told]
    rw [e]
    exact hK
  case body =>
    rintro l pre x W ⟨⟨hc, hf⟩, hb⟩ ⟨rest, hrest⟩
    have hpl : pre.length ≤ 1000000 := by
      have := congrArg List.length hrest
      rw [List.length_append, List.length_cons] at this; omega
    clear hT hlen hcs hc0 hf0 hb0
    gi_wp2
    refine ⟨(KeepsOthers.setCell _ _ _).from _, fun v hv => ?_, ⟨?_, ?_⟩, hb.setCell (p := ⟨w.heap.size, 0, none⟩) (Nat.le_refl _) _⟩
    · rw [World.cell?_setCell_other _ _ _ _ (by simp)]; exact hv
    · rw [List.length_append]
      refine (World.cell?_setCell_same' _ _ _ (by rw [hc]; rfl)).trans ?_
      simp
    · rw [World.frozen?_setCell]; exact hf
  case done =>
    rintro D xs W hD rfl ⟨⟨hc, hf⟩, hb⟩ hK
    clear hT hlen hcs hc0 hf0 hb0
    gi_wp2
    refine ⟨by simp, .inl ⟨_, _, rfl, run_takeDeferred hK, ?_⟩⟩
    exact ⟨_, results_tmp rfl _ _ _, rfl, hb.trans (belowK_b (w := w) (Nat.le_refl _) W D _ _ (by omega) hK rfl rfl)⟩
end Go.Proofs.Ythdchapieninbaa
