import Derived.Test.YtpfnljebofgifabStg11
namespace Go.Proofs.Ytpfnljebofgifab
open Go.RowKit

theorem nodup_len {α : Type} [DecidableEq α] : ∀ (l m : List α), l.Nodup → (∀ x ∈ l, x ∈ m) → l.length ≤ m.length
  | [], _, _, _ => Nat.zero_le _
  | x :: l, m, h, hs => by
    obtain ⟨h1, h2⟩ := List.nodup_cons.1 h
    have := nodup_len l (m.erase x) h2 (fun y hy => (List.mem_erase_of_ne (fun e => h1 (by rw [← e]; exact hy))).2 (hs y (by simp [hy])))
    rw [List.length_erase_of_mem (hs x (by simp))] at this
    have hm : 0 < m.length := List.length_pos_of_mem (hs x (by simp))
    simp only [List.length_cons]; omega

theorem LaidTo.mem {num : Int → Nat} {bl : List (List Nat)} {pl : List Nat} (h : LaidTo num 4352 bl pl) (i : Nat) (hi : i < 4352) : blkN num i ∈ bl :=
  List.mem_of_getElem? (h.at' i (pl[i]'(by rw [h.len]; exact hi)) (List.getElem?_eq_getElem _))

/-- The chapter's example. -/
def exL : List (SRow Int) := [⟨65, 90, 1⟩, ⟨97, 122, 1⟩]

theorem exL_blocks {w : World} {p : Nat} {f : Nat → Value} {vals : List Int} {nr : List (SRow Nat)} {bl : List (List Nat)} {pl : List Nat} (h : TabP w p exL 0 f vals nr bl pl) : bl.length = 2 := by
  obtain ⟨a, b, rfl⟩ : ∃ a b, nr = [a, b] := by
    have := h.numd.len
    match nr, this with
    | [a, b], _ => exact ⟨a, b, rfl⟩
  obtain ⟨a1, a2, a3⟩ := h.numd.same 0 _ a rfl rfl
  obtain ⟨b1, b2, _⟩ := h.numd.same 1 _ b rfl rfl
  simp only at a1 a2 a3 b1 b2
  have ha : a.v ≠ 0 := fun e => by rw [e, h.numd.head] at a3; simp at a3
  have hz : ∀ r : Int, 256 ≤ r → at' 0 [a, b] r = 0 := fun r hr => at_drop_none 0 _ r (fun x hx => by
    simp at hx
    rcases hx with rfl | rfl
    · omega
    · omega)
  have h65 : at' 0 [a, b] 65 = a.v := by
    simp only [at', List.foldl_cons, List.foldl_nil, a1, a2, b1, b2]
    rw [if_neg (by omega), if_pos (by omega)]
  have hb : ∀ i, 1 ≤ i → blkN (at' 0 [a, b]) i = blkN (at' 0 [a, b]) 1 := fun i hi => by
    unfold blkN
    refine List.map_congr_left (fun j _ => ?_)
    rw [hz _ (by omega), hz _ (by omega)]
  have hne : blkN (at' 0 [a, b]) 0 ≠ blkN (at' 0 [a, b]) 1 := fun e => by
    have e0 : (blkN (at' 0 [a, b]) 0)[65]? = some (at' 0 [a, b] 65) := by simp [blkN]
    have e1 : (blkN (at' 0 [a, b]) 1)[65]? = some (at' 0 [a, b] 321) := by simp [blkN]
    rw [e, e1, hz 321 (by omega), h65] at e0
    exact ha (Option.some.inj e0).symm
  have hle : bl.length ≤ 2 := nodup_len bl [blkN (at' 0 [a, b]) 0, blkN (at' 0 [a, b]) 1] h.laid.nodup (fun c hc => by
    obtain ⟨i, _, rfl⟩ := h.laid.used c hc
    by_cases hi : i = 0
    · subst hi; simp
    · rw [hb i (by omega)]; simp)
  have hge : 2 ≤ bl.length := nodup_len [blkN (at' 0 [a, b]) 0, blkN (at' 0 [a, b]) 1] bl (by simp [hne]) (fun c hc => by
    simp at hc
    rcases hc with rfl | rfl
    · exact h.laid.mem 0 (by omega)
    · exact h.laid.mem 1 (by omega))
  omega

theorem vin_two (w : World) : VIn (w.alloc (.cells #[.int .i32 65, .int .i32 90, .int .i64 1, .int .i32 97, .int .i32 122, .int .i64 1] 43)) (.slice (some ⟨w.heap.size, 0, none⟩) 2 2) exL := by
  have hb := heap_alloc_new w (.cells #[.int .i32 65, .int .i32 90, .int .i64 1, .int .i32 97, .int .i32 122, .int .i64 1] 43)
  refine ⟨_, 2, rfl, fun k hk => ?_, fun j hj => ⟨w.heap.size, 0, rfl, by simp, ?_⟩⟩
  · simp [Value.ownBlock] at hk; subst hk; simp
  · have hj' : j < 2 := hj
    match j, hj' with
    | 0, _ => simp [cell_of_row _ _ _ _ _ _ hb, exL]
    | 1, _ => simp [cell_of_row _ _ _ _ _ _ hb, exL]

set_option maxHeartbeats 1000000 in
theorem awake_any (w : World) : Calls Try.prog 6 #[] w fun e w' => e = .returned (.bool true) ∧ Below w.heap.size w w' := by
  have hok := Ok.start w
  have HB := hid (build_any (vin_two w) (by decide) 0)
  have hc : Hid (check exL = 0) := by show _ = _; decide
  have g1 : getV 0 exL 70 = 1 := by decide
  have g2 : getV 0 exL 91 = 0 := by decide
  go_enter Try.func6, Try.ntmps6
  go_wp2_with fail
  refine HB.out.mono ?_
  rintro e w1 ⟨hb1, ⟨h1, _⟩ | ⟨_, p, hp, rfl, f, vals, nr, bl, pl, ht⟩⟩
  · exact absurd hc.out h1
  · replace hok := (hok.alloc (o := .cells #[.int .i32 65, .int .i32 90, .int .i64 1, .int .i32 97, .int .i32 122, .int .i64 1] 43)).step hb1
    have HT := hid ht
    have hbl := exL_blocks ht
    have hbl' : (bl.length : Int) = 2 := by omega
    clear ht hb1 HB
    go_wp2_with fail
    refine (get_p HT.out 70).mono ?_
    rintro e w2 ⟨rfl, n2, hw2⟩
    have HT2 := hid (HT.out.same (w' := w2) (by rw [hw2]; rfl))
    have hok2 := hid (show Below w.heap.size w w2 by rw [hw2]; exact below_drewN hok.1 _)
    clear hw2 HT hok
    go_wp2_with fail
    refine (get_p HT2.out 91).mono ?_
    rintro e w3 ⟨rfl, n3, hw3⟩
    have HT3 := hid (HT2.out.same (w' := w3) (by rw [hw3]; rfl))
    have hok3 := hid (show Below w.heap.size w w3 by rw [hw3]; exact below_drewN hok2.out _)
    clear hw3 HT2 hok2
    go_wp2_with fail
    refine (blocks_p HT3.out).mono ?_
    rintro e w4 ⟨rfl, rfl⟩
    go_wp2_with fail
    go_ret
    exact ⟨rfl, hok3.out⟩
end Go.Proofs.Ytpfnljebofgifab
