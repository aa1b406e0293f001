import Derived.Test.YtemdmalcoemhnabUcd10
namespace Go.Proofs.Ytemdmalcoemhnab.Uc
open Go.RowKit

/-- The five parts, in blocks one behind the other. -/
def fiveP (n : Nat) : List (Nat × List Ln) := [(n, latinT), (n + 1, marksT), (n + 2, arabicT), (n + 3, devT), (n + 4, lastT)]
theorem five_join (n : Nat) : joinL (fiveP n) = allT := by
  unfold joinL fiveP allT
  simp [List.flatMap_cons, List.append_assoc]

theorem alloc_at (w : World) (o : Obj) (i : Nat) : (w.alloc o).heap[i]? = if i = w.heap.size then some o else w.heap[i]? := by
  by_cases h : i = w.heap.size
  · rw [if_pos h, h]; exact heap_alloc_new w o
  · rw [if_neg h]
    by_cases h2 : i < w.heap.size
    · exact Below.heap_alloc _ _ _ h2
    · rw [Array.getElem?_eq_none (by simp; omega), Array.getElem?_eq_none (by omega)]

theorem cell_new (w : World) (cs : Array Value) (t : TypeId) (b j : Nat) (hb : b = w.heap.size) : (w.alloc (.cells cs t)).cell? ⟨b, j, none⟩ = cs[j]? := by
  have h := heap_alloc_new w (.cells cs t)
  subst hb
  unfold World.cell?
  rw [h]; rfl

theorem own_base {w : World} {B B' n size : Nat} {e : TypeId} {v : Value} {xs : List Value} (h : w.ownsRow B e size v n xs) (hB : B' ≤ B) : w.ownsRow B' e size v n xs :=
  ⟨h.1, h.2.imp id fun ⟨g, cap, cur, h1, h2, h3⟩ => ⟨g, cap, cur, h1, Nat.le_trans hB h2, h3⟩⟩

theorem five_parts {w W : World} {A1 A2 A3 A4 A5 : Array Value} {l1 l2 l3 l4 l5 : List Ln} (h1 : A1 = (l1.flatMap cells7).toArray) (h2 : A2 = (l2.flatMap cells7).toArray) (h3 : A3 = (l3.flatMap cells7).toArray) (h4 : A4 = (l4.flatMap cells7).toArray) (h5 : A5 = (l5.flatMap cells7).toArray)
    (hW : W = (((((w.alloc (.cells A1 78)).alloc (.cells A2 78)).alloc (.cells A3 78)).alloc (.cells A4 78)).alloc (.cells A5 78)).alloc (.cells #[.slice (some ⟨w.heap.size, 0, none⟩) l1.length l1.length, .slice (some ⟨w.heap.size + 1, 0, none⟩) l2.length l2.length, .slice (some ⟨w.heap.size + 2, 0, none⟩) l3.length l3.length, .slice (some ⟨w.heap.size + 3, 0, none⟩) l4.length l4.length, .slice (some ⟨w.heap.size + 4, 0, none⟩) l5.length l5.length] 47)) :
    Parts W (w.heap.size + 5) [(w.heap.size, l1), (w.heap.size + 1, l2), (w.heap.size + 2, l3), (w.heap.size + 3, l4), (w.heap.size + 4, l5)] := by
  subst h1 h2 h3 h4 h5 hW
  refine ⟨by simp, fun k hk => ?_⟩
  match k, hk with
  | 0, _ => exact ⟨(cell_new _ _ _ _ _ (by simp only [World.size_alloc])).trans rfl, by simp only [alloc_at, World.size_alloc, List.getElem_cons_zero]; repeat (first | rw [if_pos trivial] | rw [if_pos (by omega)] | rw [if_neg (by omega)])⟩
  | 1, _ => exact ⟨(cell_new _ _ _ _ _ (by simp only [World.size_alloc])).trans rfl, by simp only [alloc_at, World.size_alloc, List.getElem_cons_succ, List.getElem_cons_zero]; repeat (first | rw [if_pos trivial] | rw [if_pos (by omega)] | rw [if_neg (by omega)])⟩
  | 2, _ => exact ⟨(cell_new _ _ _ _ _ (by simp only [World.size_alloc])).trans rfl, by simp only [alloc_at, World.size_alloc, List.getElem_cons_succ, List.getElem_cons_zero]; repeat (first | rw [if_pos trivial] | rw [if_pos (by omega)] | rw [if_neg (by omega)])⟩
  | 3, _ => exact ⟨(cell_new _ _ _ _ _ (by simp only [World.size_alloc])).trans rfl, by simp only [alloc_at, World.size_alloc, List.getElem_cons_succ, List.getElem_cons_zero]; repeat (first | rw [if_pos trivial] | rw [if_pos (by omega)] | rw [if_neg (by omega)])⟩
  | 4, _ => exact ⟨(cell_new _ _ _ _ _ (by simp only [World.size_alloc])).trans rfl, by simp only [alloc_at, World.size_alloc, List.getElem_cons_succ, List.getElem_cons_zero]; repeat (first | rw [if_pos trivial] | rw [if_pos (by omega)] | rw [if_neg (by omega)])⟩
  | k + 5, h => simp at h; omega

set_option maxRecDepth 100000 in
theorem all_len : 0 < allT.length ∧ allT.length ≤ 200 := by decide +kernel

set_option maxHeartbeats 1000000 in
theorem lines_any (w : World) : Calls Try.prog 18 #[] w fun e w' => ∃ v, e = .returned v ∧ w'.ownsRow w.heap.size 78 7 v allT.length (allT.flatMap cells7) ∧ Below w.heap.size w w' := by
  have H1 := hid (fun w => latin_any w)
  have H2 := hid (fun w => marks_any w)
  have H3 := hid (fun w => arabic_any w)
  have H4 := hid (fun w => dev_any w)
  have H5 := hid (fun w => last_any w)
  obtain ⟨A1, e1⟩ : ∃ A, A = (latinT.flatMap cells7).toArray := ⟨_, rfl⟩
  obtain ⟨A2, e2⟩ : ∃ A, A = (marksT.flatMap cells7).toArray := ⟨_, rfl⟩
  obtain ⟨A3, e3⟩ : ∃ A, A = (arabicT.flatMap cells7).toArray := ⟨_, rfl⟩
  obtain ⟨A4, e4⟩ : ∃ A, A = (devT.flatMap cells7).toArray := ⟨_, rfl⟩
  obtain ⟨A5, e5⟩ : ∃ A, A = (lastT.flatMap cells7).toArray := ⟨_, rfl⟩
  rw [← e1] at H1
  rw [← e2] at H2
  rw [← e3] at H3
  rw [← e4] at H4
  rw [← e5] at H5
  have HC : Hid (∀ W, _ → Calls Try.prog 30 #[.slice (some ⟨w.heap.size + 5, 0, none⟩) 5 5] W _) := fun W hW => concat_any (ps := fiveP w.heap.size) (five_parts (W := W) e1 e2 e3 e4 e5 hW) (by rw [five_join]; exact all_len.1) (by rw [five_join]; have := all_len.2; omega) (by unfold fiveP; exact (by decide : (5 : Nat) ≤ 100))
  rw [five_join] at HC
  clear e1 e2 e3 e4 e5
  generalize latinT.length = n1 at *
  generalize marksT.length = n2 at *
  generalize arabicT.length = n3 at *
  generalize devT.length = n4 at *
  generalize lastT.length = n5 at *
  go_enter Try.func18, Try.ntmps18
  go_wp2_with (first | (go_at_call 31; refine (H1.out _).mono ?_; rintro e w1 ⟨rfl, rfl⟩) | (go_at_call 32; refine (H2.out _).mono ?_; rintro e w1 ⟨rfl, rfl⟩) | (go_at_call 33; refine (H3.out _).mono ?_; rintro e w1 ⟨rfl, rfl⟩) | (go_at_call 34; refine (H4.out _).mono ?_; rintro e w1 ⟨rfl, rfl⟩) | (go_at_call 35; refine (H5.out _).mono ?_; rintro e w1 ⟨rfl, rfl⟩) | (go_at_call 30; refine (HC.out _ rfl).mono ?_; rintro e w1 ⟨v, rfl, ho, hb⟩; have HO := hid ho; have HB := hid hb; clear ho hb))
  go_ret
  have hb0 : Below w.heap.size w ((((((w.alloc (.cells A1 78)).alloc (.cells A2 78)).alloc (.cells A3 78)).alloc (.cells A4 78)).alloc (.cells A5 78)).alloc (.cells #[.slice (some ⟨w.heap.size, 0, none⟩) n1 n1, .slice (some ⟨w.heap.size + 1, 0, none⟩) n2 n2, .slice (some ⟨w.heap.size + 2, 0, none⟩) n3 n3, .slice (some ⟨w.heap.size + 3, 0, none⟩) n4 n4, .slice (some ⟨w.heap.size + 4, 0, none⟩) n5 n5] 47)) :=
    (((((((Below.refl _ _).alloc (by simp) _).alloc (by simp) _).alloc (by simp; omega) _).alloc (by simp; omega) _).alloc (by simp; omega) _).alloc (by simp; omega) _)
  exact ⟨_, rfl, own_base HO.out hb0.size, hb0.trans (HB.out.mono hb0.size)⟩
end Go.Proofs.Ytemdmalcoemhnab.Uc
