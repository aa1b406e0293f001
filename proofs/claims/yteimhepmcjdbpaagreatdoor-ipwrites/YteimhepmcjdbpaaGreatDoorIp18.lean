import Derived.Test.YteimhepmcjdbpaaGreatDoorIp17
namespace Go.Proofs.YteimhepmcjdbpaaGreatDoor
open Go.RowKit
namespace Ip

theorem paL_one (c : UInt8) : ∀ l : List UInt8, ¬ c ∈ l → paL c l = [l] := by
  intro l
  induction l with
  | nil => intro _; rfl
  | cons a l ih =>
    intro h
    rw [List.mem_cons, not_or] at h
    rw [paL, if_neg (fun e => h.1 e.symm), ih h.2]; rfl
theorem v4_word (p : List UInt8) (h : (v4L p).2 = true) : woL p = -1 := by
  have h46 : (46 : UInt8) ∈ p := by
    by_cases hm : (46 : UInt8) ∈ p
    · exact hm
    · unfold v4L at h
      rw [paL_one 46 p hm] at h
      exact absurd h Bool.false_ne_true
  refine if_neg (fun hc => ?_)
  have := List.all_eq_true.1 hc.2.2 46 h46
  exact absurd this (by decide)
theorem paL_size (c : UInt8) : ∀ l : List UInt8, ∀ p ∈ paL c l, p.length ≤ l.length := by
  intro l
  induction l with
  | nil => intro p hp; simp [paL] at hp; subst hp; exact Nat.le_refl _
  | cons a l ih =>
    intro p hp
    have hne := paL_ne c l
    unfold paL at hp
    cases h : paL c l with
    | nil => exact absurd h hne
    | cons x t =>
      rw [h] at hp ih
      split at hp
      · rcases List.mem_cons.1 hp with e | e
        · subst e; exact Nat.zero_le _
        · exact Nat.le_succ_of_le (ih p e)
      · rcases List.mem_cons.1 hp with e | e
        · subst e
          exact Nat.succ_le_succ (ih x (List.mem_cons_self ..))
        · exact Nat.le_succ_of_le (ih p (List.mem_cons_of_mem _ e))
theorem paL_many (c : UInt8) : ∀ l : List UInt8, (paL c l).length ≤ l.length + 1 := by
  intro l
  induction l with
  | nil => exact Nat.le_refl _
  | cons a l ih =>
    have := paL_ne c l
    unfold paL
    split
    · simpa using ih
    · cases h : paL c l with
      | nil => exact absurd h this
      | cons x t => rw [h] at ih; simpa using Nat.le_succ_of_le ih

/-- What is still to be read behind what is. -/
def reQ (acc : List Int) (ps : List (List UInt8)) : Option (List Int) := (reP true ps).map (acc ++ ·)
theorem reQ_nil (acc : List Int) : reQ acc [] = some acc := by simp [reQ, reP]
theorem reQ_four (acc : List Int) (p : List UInt8) (a b c d : Int) (h : v4L p = ([a, b, c, d], true)) : reQ acc [p] = some (acc ++ [256 * a + b, 256 * c + d]) := by
  have hw := v4_word p (by rw [h])
  unfold reQ
  rw [reP, if_neg (by omega), h, if_pos ⟨rfl, rfl, rfl⟩]
  simp [pkL, Int.mul_comm]
theorem reQ_bad (acc : List Int) (p : List UInt8) (ps : List (List UInt8)) (h : woL p < 0) (h2 : (v4L p).2 = false ∨ ps ≠ []) : reQ acc (p :: ps) = none := by
  unfold reQ
  rw [reP, if_neg (by omega), if_neg]
  · rfl
  · rintro ⟨e1, e2, _⟩
    rcases h2 with h2 | h2
    · rw [h2] at e1; cases e1
    · exact h2 e2
theorem reQ_word (acc : List Int) (p : List UInt8) (ps : List (List UInt8)) (h : 0 ≤ woL p) : reQ acc (p :: ps) = reQ (acc ++ [woL p]) ps := by
  unfold reQ
  rw [reP, if_pos h]
  cases reP true ps with
  | none => rfl
  | some vs => simp
/-- The words of a text, as the document reads them. -/
def roL (l : List UInt8) : Option (List Int) := if l = [] then some [] else reQ [] (paL 58 l)

theorem reP_len (q : Bool) : ∀ (ps : List (List UInt8)) (vs : List Int), reP q ps = some vs → vs.length ≤ ps.length + 1 := by
  intro ps
  induction ps with
  | nil => intro vs h; cases h; exact Nat.zero_le _
  | cons p ps ih =>
    intro vs h
    rw [reP] at h
    split at h
    · split at h
      · rename_i us hu
        cases h
        have := ih us hu
        simpa using this
      · cases h
    · split at h
      · cases h
        have : ∀ l, (pkL l).length ≤ 2 := by intro l; unfold pkL; split <;> simp
        have := this (v4L p).1
        simp only [List.length_cons]; omega
      · cases h
theorem roL_len (l : List UInt8) (xs : List Int) (h : roL l = some xs) : xs.length ≤ l.length + 2 := by
  unfold roL at h
  split at h
  · cases h; exact Nat.zero_le _
  · unfold reQ at h
    cases hp : reP true (paL 58 l) with
    | none => rw [hp] at h; cases h
    | some vs =>
      rw [hp] at h
      have h1 := reP_len true _ _ hp
      have h2 := paL_many 58 l
      have e : [] ++ vs = xs := by simpa using h
      rw [← e, List.nil_append]; omega

theorem info_int : (Tryz.prog.info? 3).map (fun i => (i.zero, i.size, i.bytes)) = some (some (.int .i64 0), 1, 8) := by kernel_rfl
/-- append(l, x) and append(l, x, y): onto a row of the call's own. -/
theorem own_below {W W' : World} {B n : Nat} {e : TypeId} {v : Value} {xs : List Value} (h : W.ownsRow B e 1 v n xs) (hb : Below W.heap.size W W') : W'.ownsRow B e 1 v n xs := by
  refine ⟨h.1, ?_⟩
  rcases h.2 with q | ⟨g, cap, cur, hv, hB, hg, rest⟩
  · exact .inl q
  · exact .inr ⟨g, cap, cur, hv, hB, (hb.block g (Array.getElem?_eq_some_iff.1 hg).1).trans hg, rest⟩
theorem appI {ops : Array Oper} {rest : List Oper} {o : Oper} {a : Act} {Q : Exit → Act → World → Prop} (hgd : o.guard = none) (s x : Operand)
    (ho : o.op = .call { callee := .builtin .append, args := #[s, x], argTypes := #[54, 54] }) (W : World) (B : Nat) (v : Value) (us : List Value) (r : Int) (hs : a.eval s = v) (N : Nat) (hN : W.heap.size = N) (hx : a.eval x = .slice (some ⟨N, 0, none⟩) 1 1)
    (hown : W.ownsRow B 3 1 v us.length us) (hn : us.length ≤ 1000000) (hB : B ≤ W.heap.size)
    (h : ∀ v' w', w'.ownsRow B 3 1 v' (us ++ [Value.int .i64 r]).length (us ++ [Value.int .i64 r]) → Below B W w' → (∀ g, g < W.heap.size → v.ownBlock ≠ some g → (∀ j, w'.cell? ⟨g, j, none⟩ = W.cell? ⟨g, j, none⟩) ∧ v'.ownBlock ≠ some g) → wpList Tryz.prog ops Q rest (a.put o.dst v') w') :
    wpList Tryz.prog ops Q (o :: rest) a (W.alloc (.cells #[.int .i64 r] 3)) := by
  subst hN
  obtain ⟨i0, hi, hz0, hz1, hz2⟩ := info_parts info_int
  refine wpList_append_own_at _ hgd s x 54 ho B 3 i0 (.int .i64 0) 1 8 Tryz.underlying54 hi hz0 hz1 hz2 rfl (by decide) v us.length us hs (hown.alloc _) ⟨W.heap.size, 0, none⟩ 1 1 [.int .i64 r] hx rfl
    (World.news_of_block (heap_new W _)) (fun u hu => by simp at hu; subst hu; rfl) (by unfold maxLen; omega) (by omega) (by simp; omega) (fun v' w' h1 h2 _ h4 => h v' w' ?_ ?_ (fun g hg hne => ⟨fun j => (h2.cell_far ⟨g, j, none⟩ (by simp; omega) (fun e => hne e.symm)).trans (((Below.refl W.heap.size W).alloc (Nat.le_refl _) _).cell (p := ⟨g, j, none⟩) hg), fun e => by
      rcases h4 with h4 | h4
      · exact hne (h4 ▸ e)
      · rw [h4] at e; injection e with e; simp at e; omega⟩))
  · rw [List.length_append]; exact h1
  · exact ((Below.refl _ _).alloc hB _).trans ((Below.refl B _).grown h2 (by simp; omega) (fun k e => (hown.lt k e).1))
theorem appI2 {ops : Array Oper} {rest : List Oper} {o : Oper} {a : Act} {Q : Exit → Act → World → Prop} (hgd : o.guard = none) (s x : Operand)
    (ho : o.op = .call { callee := .builtin .append, args := #[s, x], argTypes := #[54, 54] }) (W : World) (B : Nat) (v : Value) (us : List Value) (r t : Int) (hs : a.eval s = v) (N : Nat) (hN : W.heap.size = N) (hx : a.eval x = .slice (some ⟨N, 0, none⟩) 2 2)
    (hown : W.ownsRow B 3 1 v us.length us) (hn : us.length ≤ 1000000) (hB : B ≤ W.heap.size)
    (h : ∀ v' w', w'.ownsRow B 3 1 v' (us ++ [Value.int .i64 r, .int .i64 t]).length (us ++ [Value.int .i64 r, .int .i64 t]) → Below B W w' → (∀ g, g < W.heap.size → v.ownBlock ≠ some g → (∀ j, w'.cell? ⟨g, j, none⟩ = W.cell? ⟨g, j, none⟩) ∧ v'.ownBlock ≠ some g) → wpList Tryz.prog ops Q rest (a.put o.dst v') w') :
    wpList Tryz.prog ops Q (o :: rest) a (W.alloc (.cells #[.int .i64 r, .int .i64 t] 3)) := by
  subst hN
  obtain ⟨i0, hi, hz0, hz1, hz2⟩ := info_parts info_int
  refine wpList_append_own_at _ hgd s x 54 ho B 3 i0 (.int .i64 0) 1 8 Tryz.underlying54 hi hz0 hz1 hz2 rfl (by decide) v us.length us hs (hown.alloc _) ⟨W.heap.size, 0, none⟩ 2 2 [.int .i64 r, .int .i64 t] hx rfl
    (World.news_of_block (heap_new W _)) (fun u hu => by simp at hu; rcases hu with e | e <;> subst e <;> rfl) (by unfold maxLen; omega) (by omega) (by simp; omega) (fun v' w' h1 h2 _ h4 => h v' w' ?_ ?_ (fun g hg hne => ⟨fun j => (h2.cell_far ⟨g, j, none⟩ (by simp; omega) (fun e => hne e.symm)).trans (((Below.refl W.heap.size W).alloc (Nat.le_refl _) _).cell (p := ⟨g, j, none⟩) hg), fun e => by
      rcases h4 with h4 | h4
      · exact hne (h4 ▸ e)
      · rw [h4] at e; injection e with e; simp at e; omega⟩))
  · rw [List.length_append]; exact h1
  · exact ((Below.refl _ _).alloc hB _).trans ((Below.refl B _).grown h2 (by simp; omega) (fun k e => (hown.lt k e).1))

/-- A row of ints, as it is read. -/
def Nx (w : World) (v : Value) (xs : List Int) : Prop := ∃ g cap, v = .slice (some ⟨g, 0, none⟩) xs.length cap ∧ g < w.heap.size ∧ ∀ j (h : j < xs.length), w.cell? ⟨g, j, none⟩ = some (.int .i64 xs[j])
theorem Nx.step {w w' : World} {v : Value} {L : List Int} (h : Nx w v L) (hb : Below w.heap.size w w') : Nx w' v L := by
  obtain ⟨g, cap, e, hl, hc⟩ := h
  exact ⟨g, cap, e, Nat.lt_of_lt_of_le hl hb.size, fun j hj => (hb.cell (p := ⟨g, j, none⟩) hl).trans (hc j hj)⟩
theorem Nx.of {w : World} {B : Nat} {v : Value} {xs : List Int} {n : Nat} (h : w.ownsRow B 3 1 v n (i64v xs)) (hn : n = xs.length) (h0 : 0 < xs.length) : Nx w v xs := by
  obtain ⟨m, hm⟩ : ∃ m, xs.length = m + 1 := ⟨xs.length - 1, by omega⟩
  subst hn
  rw [hm] at h
  obtain ⟨g, cap, rfl, _, hl⟩ := own_is h
  refine ⟨g, cap, by rw [hm], hl, fun j hj => (own_at h j _ ?_).1⟩
  unfold i64v
  rw [List.getElem?_map, List.getElem?_eq_getElem hj]; rfl
theorem i64v_snoc (l : List Int) (x : Int) : i64v (l ++ [x]) = i64v l ++ [.int .i64 x] := by simp [i64v]

set_option maxRecDepth 100000 in
set_option maxHeartbeats 4000000 in
theorem rrow_any (s : ByteArray) (w : World) (hs : s.size ≤ 1000) :
    Calls Tryz.prog 23 #[.string s] w fun e w' => ((∃ xs v, roL s.data.toList = some xs ∧ e = .returned (.tuple #[v, .bool true]) ∧ Nx w' v xs ∧ ∀ g, v.ownBlock = some g → w.heap.size ≤ g) ∨ (roL s.data.toList = none ∧ e = .returned (.tuple #[.slice none 0 0, .bool false]))) ∧ Below w.heap.size w w' := by
  by_cases h0 : 0 < s.size
  · have HE := empty_no s h0
    have HP := hid (fun W => rparts_any s 58 58 rfl W hs)
    have hne : s.data.toList ≠ [] := by intro e; rw [← len_size, e] at h0; exact absurd h0 (Nat.lt_irrefl _)
    have HR : Hid (roL s.data.toList = reQ [] (paL 58 s.data.toList)) := by show _ = _; unfold roL; rw [if_neg hne]
    have HO0 : Hid ((w.alloc (.cells #[] 3)).ownsRow w.heap.size 3 1 (.slice (some ⟨w.heap.size, 0, none⟩) 0 0) 0 (i64v [])) := World.ownsRow_made w #[] 0 (Nat.le_refl _) (by unfold maxLen; omega) rfl
    have HK0 := hid ((Ok.start w).alloc (o := .cells #[] 3))
    have HS : Hid (∀ p ∈ paL 58 s.data.toList, p.length ≤ 1000) := fun p hp => Nat.le_trans (paL_size 58 _ p hp) (by rw [len_size]; exact hs)
    have HM : Hid ((paL 58 s.data.toList).length ≤ 1001) := by have := paL_many 58 s.data.toList; rw [len_size] at this; show _ ≤ _; omega
    have HNe := hid (paL_ne 58 s.data.toList)
    clear hne
    generalize roL s.data.toList = R at *
    go_enter Tryz.func23, Tryz.ntmps23
    go_wp2_with fail
    refine (HP.out _).mono ?_
    rintro e w1 ⟨⟨v, rfl, hT, hgb⟩, hb1⟩
    have H1 := hid hb1
    have HT := hid hT
    clear hT hb1 HP
    generalize paL 58 s.data.toList = L at *
    obtain ⟨N, hN⟩ : ∃ N, L.length = N + 1 := ⟨L.length - 1, by have := List.length_pos_iff.2 HNe.out; omega⟩
    obtain ⟨g, cap, rfl, hgl, hgc⟩ := HT.out
    have HC := hid hgc
    have HNg : Hid (g ≠ w.heap.size) := by have h1 := hgb g rfl; show _ ≠ _; simp at h1; omega
    have HL : Hid (L.length = N + 1) := hN
    have hN1 : N ≤ 1000 := by have := HM.out; omega
    clear HT hgc hgb HM
    rw [hN]
    clear hN
    have HO1 : Hid (w1.ownsRow w.heap.size 3 1 (.slice (some ⟨w.heap.size, 0, none⟩) 0 0) 0 (i64v [])) := own_below HO0.out H1.out
    have HK1 : Hid (Ok w.heap.size w w1 ∧ g < w1.heap.size) := ⟨HK0.out.step H1.out, hgl⟩
    clear HO0 HK0 H1 hgl
    go_wp2_with fail
    go_loopw [4, 6] (fun o i wr => ∃ (k : Nat) (acc : List Int), i = .int .i64 k ∧ k ≤ N + 1 ∧ Hid (acc.length = k) ∧ Hid (wr.ownsRow w.heap.size 3 1 o (i64v acc).length (i64v acc)) ∧ Hid (Ok w.heap.size w wr ∧ g < wr.heap.size) ∧ Hid ((∀ j (h : j < L.length), wr.cell? ⟨g, j, none⟩ = some (.string ⟨L[j].toArray⟩)) ∧ o.ownBlock ≠ some g) ∧ Hid (R = reQ acc (L.drop k))) (fun _ i _ => N + 1 - (intOf i).toNat)
    case atStart => exact ⟨0, [], rfl, by omega, by show _ = _; rfl, HO1, HK1.out, ⟨HC.out, fun e => HNg.out (by injection e with e; exact e.symm)⟩, HR⟩
    case round =>
      obtain ⟨k, acc, rfl, hk, HA, HO, HK, HCo, HQ⟩ := hrel
      by_cases hlt : k < N + 1
      · have hkL : k < L.length := by rw [HL.out]; exact hlt
        have ck : wr.cell? ⟨g, k, none⟩ = some (.string ⟨L[k].toArray⟩) := HCo.out.1 k hkL
        have hps := HS.out L[k] (List.getElem_mem hkL)
        have HV := hid (fun W => rv4_any ⟨L[k].toArray⟩ W (by show L[k].toArray.size ≤ _; simpa using hps))
        have HW := hid (fun W => rword_any ⟨L[k].toArray⟩ W (by show L[k].toArray.size ≤ _; unfold maxLen; simp; omega))
        have eb : (ByteArray.mk L[k].toArray).data.toList = L[k] := by simp
        rw [eb] at HV HW
        have HQ2 : Hid (R = reQ acc (L[k] :: L.drop (k + 1))) := by show _ = _; rw [HQ.out, List.drop_eq_getElem_cons hkL]
        have HD : Hid (L.drop (k + 1) = [] ↔ k = N) := by
          show _ ↔ _; rw [List.drop_eq_nil_iff, HL.out]; omega
        obtain ⟨a, b, c, d, f, hv, hb⟩ := v4L_bd L[k]
        rw [hv] at HV
        have e4 : (i64v [a, b, c, d]).toArray = #[.int .i64 a, .int .i64 b, .int .i64 c, .int .i64 d] := rfl
        rw [show ([a, b, c, d], f).1 = [a, b, c, d] from rfl, e4, show (([a, b, c, d], f) : List Int × Bool).2 = f from rfl] at HV
        have HB := hid hv
        clear eb hv e4 hps
        generalize L[k] = p at *
        generalize (⟨p.toArray⟩ : ByteArray) = bp at *
        generalize hrest : L.drop (k + 1) = rest at *
        have HRs := hid hrest
        clear hrest
        go_wp2_with fail
        refine (HV.out _).mono ?_
        rintro e w2 ⟨rfl, hb2⟩
        have H2 := hid hb2
        clear hb2
        have ck2 : w2.cell? ⟨g, k, none⟩ = some (.string bp) := (H2.out.cell (p := ⟨g, k, none⟩) HK.out.2).trans ck
        have HO2 : Hid ((w2.alloc (.cells #[.int .i64 a, .int .i64 b, .int .i64 c, .int .i64 d] 30)).ownsRow w.heap.size 3 1 u4 (i64v acc).length (i64v acc)) := own_below (own_below HO.out H2.out) ((Below.refl _ _).alloc (Nat.le_refl _) _)
        have HK2 : Hid (Ok w.heap.size w (w2.alloc (.cells #[.int .i64 a, .int .i64 b, .int .i64 c, .int .i64 d] 30)) ∧ g < (w2.alloc (.cells #[.int .i64 a, .int .i64 b, .int .i64 c, .int .i64 d] 30)).heap.size) :=
          ⟨(HK.out.1.step H2.out).alloc, by have h1 := HK.out.2; have h2 := H2.out.size; simp; omega⟩
        have HC2 : Hid (∀ j (h : j < L.length), (w2.alloc (.cells #[.int .i64 a, .int .i64 b, .int .i64 c, .int .i64 d] 30)).cell? ⟨g, j, none⟩ = some (.string ⟨L[j].toArray⟩)) := fun j hj =>
          (((Below.refl w2.heap.size w2).alloc (Nat.le_refl _) _).cell (p := ⟨g, j, none⟩) (Nat.lt_of_lt_of_le HK.out.2 H2.out.size)).trans ((H2.out.cell (p := ⟨g, j, none⟩) HK.out.2).trans (HCo.out.1 j hj))
        have hal : (i64v acc).length ≤ 1000000 := by rw [i64v_len, HA.out]; omega
        by_cases hfk : f = true ∧ k = N
        · obtain ⟨rfl, rfl⟩ := hfk
          have HF : Hid (R = some (acc ++ [256 * a + b, 256 * c + d])) := by
            show _ = _; rw [HQ2.out, HD.out.2 rfl, reQ_four acc p a b c d HB.out]
          clear ck
          go_wp2_with (at_builtin; refine appI2 rfl (.tmp 38) (.tmp 51) rfl (w2.alloc (.cells #[.int .i64 a, .int .i64 b, .int .i64 c, .int .i64 d] 30)) w.heap.size _ (i64v acc) (256 * a + b) (256 * c + d) (by rfl) (w2.heap.size + 1) (by simp) (by rfl) HO2.out hal HK2.out.1.2 (fun v' w' h1 h2 h3 => ?_); have H4 := hid h1; have H5 := hid h2; have H6 := hid h3; clear h1 h2 h3)
          go_ret2
          exact ⟨.inl ⟨_, _, HF.out, rfl, Nx.of (n := (i64v acc ++ [Value.int .i64 (256 * a + b), .int .i64 (256 * c + d)]).length) (by have h4 := H4.out; rw [show i64v acc ++ [Value.int .i64 (256 * a + b), .int .i64 (256 * c + d)] = i64v (acc ++ [256 * a + b, 256 * c + d]) by simp [i64v]] at h4 ⊢; exact h4) (by simp [i64v]) (by simp), fun g0 h0 => (H4.out.lt g0 h0).1⟩, HK2.out.1.1.trans H5.out⟩
        · cases f
          · have hkN : True := trivial
            have ck3 : (w2.alloc (.cells #[.int .i64 a, .int .i64 b, .int .i64 c, .int .i64 d] 30)).cell? ⟨g, k, none⟩ = some (.string bp) := (((Below.refl w2.heap.size w2).alloc (Nat.le_refl _) _).cell (p := ⟨g, k, none⟩) (Nat.lt_of_lt_of_le HK.out.2 H2.out.size)).trans ck2
            clear ck
            by_cases hn : 0 ≤ woL p
            · have HF : Hid (R = reQ (acc ++ [woL p]) rest) := by show _ = _; rw [HQ2.out, reQ_word _ _ _ hn]
              have hn2 : ¬ woL p < 0 := by omega
              clear hn
              generalize woL p = x at *
              go_wp2_with (first | (go_at_call 45; refine (HW.out _).mono ?_; rintro e w' ⟨rfl, rfl⟩) | (at_builtin; refine appI rfl (.tmp 60) (.tmp 62) rfl (w2.alloc (.cells #[.int .i64 a, .int .i64 b, .int .i64 c, .int .i64 d] 30)) w.heap.size _ (i64v acc) x (by rfl) (w2.heap.size + 1) (by simp) (by rfl) HO2.out hal HK2.out.1.2 (fun v' w' h1 h2 h3 => ?_); have H4 := hid h1; have H5 := hid h2; have H6 := hid h3; clear h1 h2 h3))
              go_roundw
              case rel =>
                have h4 := H4.out
                rw [← i64v_snoc] at h4
                refine ⟨k + 1, acc ++ [x], by go_num, by omega, by show _ = _; rw [List.length_append, HA.out]; rfl, h4, ⟨⟨HK2.out.1.1.trans H5.out, Nat.le_trans HK2.out.1.2 H5.out.size⟩, Nat.lt_of_lt_of_le HK2.out.2 H5.out.size⟩, ⟨fun j hj => ((H6.out g HK2.out.2 HCo.out.2).1 j).trans (HC2.out j hj), (H6.out g HK2.out.2 HCo.out.2).2⟩, by show _ = _; rw [HRs.out]; exact HF.out⟩
              case measure => simp [intOf]; omega
            · have hn2 : woL p < 0 := by omega
              have HF : Hid (R = none) := by
                show _ = _; rw [HQ2.out]
                exact reQ_bad _ _ _ hn2 (by first | exact .inr (fun e => hkN (HD.out.1 e)) | exact .inl (by rw [HB.out]))
              clear hn
              generalize woL p = x at *
              go_wp2_with (go_at_call 45; refine (HW.out _).mono ?_; rintro e w' ⟨rfl, rfl⟩)
              go_ret2
              exact ⟨.inr ⟨HF.out, rfl⟩, HK2.out.1.1⟩
          · have hkN : ¬ k = N := fun e => hfk ⟨rfl, e⟩
            have hq : ((k : Int) == (N : Int)) = false := by rw [beq_eq_false_iff_ne]; omega
            have ck3 : (w2.alloc (.cells #[.int .i64 a, .int .i64 b, .int .i64 c, .int .i64 d] 30)).cell? ⟨g, k, none⟩ = some (.string bp) := (((Below.refl w2.heap.size w2).alloc (Nat.le_refl _) _).cell (p := ⟨g, k, none⟩) (Nat.lt_of_lt_of_le HK.out.2 H2.out.size)).trans ck2
            clear ck
            by_cases hn : 0 ≤ woL p
            · have HF : Hid (R = reQ (acc ++ [woL p]) rest) := by show _ = _; rw [HQ2.out, reQ_word _ _ _ hn]
              have hn2 : ¬ woL p < 0 := by omega
              clear hn
              generalize woL p = x at *
              go_wp2_with (first | (go_at_call 45; refine (HW.out _).mono ?_; rintro e w' ⟨rfl, rfl⟩) | (at_builtin; refine appI rfl (.tmp 60) (.tmp 62) rfl (w2.alloc (.cells #[.int .i64 a, .int .i64 b, .int .i64 c, .int .i64 d] 30)) w.heap.size _ (i64v acc) x (by rfl) (w2.heap.size + 1) (by simp) (by rfl) HO2.out hal HK2.out.1.2 (fun v' w' h1 h2 h3 => ?_); have H4 := hid h1; have H5 := hid h2; have H6 := hid h3; clear h1 h2 h3))
              go_roundw
              case rel =>
                have h4 := H4.out
                rw [← i64v_snoc] at h4
                refine ⟨k + 1, acc ++ [x], by go_num, by omega, by show _ = _; rw [List.length_append, HA.out]; rfl, h4, ⟨⟨HK2.out.1.1.trans H5.out, Nat.le_trans HK2.out.1.2 H5.out.size⟩, Nat.lt_of_lt_of_le HK2.out.2 H5.out.size⟩, ⟨fun j hj => ((H6.out g HK2.out.2 HCo.out.2).1 j).trans (HC2.out j hj), (H6.out g HK2.out.2 HCo.out.2).2⟩, by show _ = _; rw [HRs.out]; exact HF.out⟩
              case measure => simp [intOf]; omega
            · have hn2 : woL p < 0 := by omega
              have HF : Hid (R = none) := by
                show _ = _; rw [HQ2.out]
                exact reQ_bad _ _ _ hn2 (by first | exact .inr (fun e => hkN (HD.out.1 e)) | exact .inl (by rw [HB.out]))
              clear hn
              generalize woL p = x at *
              go_wp2_with (go_at_call 45; refine (HW.out _).mono ?_; rintro e w' ⟨rfl, rfl⟩)
              go_ret2
              exact ⟨.inr ⟨HF.out, rfl⟩, HK2.out.1.1⟩
      · have hk5 : k = N + 1 := by omega
        subst hk5
        have HF : Hid (R = some acc) := by
          show _ = _; rw [HQ.out, List.drop_of_length_le (by rw [HL.out]; exact Nat.le_refl _), reQ_nil]
        go_wp2_with fail
        go_ret2
        exact ⟨.inl ⟨acc, _, HF.out, rfl, Nx.of HO.out (i64v_len _) (by rw [HA.out]; omega), fun g0 h0 => (HO.out.lt g0 h0).1⟩, HK.out.1.1⟩
  · have e : s.data.toList = [] := List.eq_nil_of_length_eq_zero (by rw [len_size]; omega)
    have HE : s.toList.isEmpty = true := by rw [ByteArray.toList_eq, e]; rfl
    have HR : Hid (roL s.data.toList = some []) := by show _ = _; unfold roL; rw [if_pos e]
    clear e
    generalize roL s.data.toList = R at *
    go_enter Tryz.func23, Tryz.ntmps23
    go_wp2_with fail
    go_ret2
    exact ⟨.inl ⟨[], _, HR.out, rfl, ⟨w.heap.size, 0, rfl, by simp, fun j hj => absurd hj (by simp)⟩, fun g0 h0 => by injection h0 with h0; exact Nat.le_of_eq h0⟩, (Below.refl _ _).alloc (Nat.le_refl _) _⟩
end Ip
end Go.Proofs.YteimhepmcjdbpaaGreatDoor
