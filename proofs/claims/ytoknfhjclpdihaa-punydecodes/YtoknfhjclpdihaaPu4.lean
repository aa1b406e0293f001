import Derived.Test.YtoknfhjclpdihaaPu3
import Derived.Test.YtoknfhjclpdihaaOrd9
namespace Go.Proofs.Ytoknfhjclpdihaa
namespace Pu
open Go.RowKit Od

theorem own_below {w w' : World} {B n size : Nat} {e : TypeId} {v : Value} {xs : List Value} (h : w.ownsRow B e size v n xs) (hb : Below w.heap.size w w') : w'.ownsRow B e size v n xs :=
  ⟨h.1, h.2.imp id fun ⟨g, cap, cur, h1, h2, h3, h4⟩ => ⟨g, cap, cur, h1, h2, (hb.block g (Array.getElem?_eq_some_iff.1 h3).1).trans h3, h4⟩⟩
theorem Try.info_u8 : (Try.prog.info? 5).map (fun i => (i.zero, i.size, i.bytes)) = some (some (.int .u8 0), 1, 1) := by kernel_rfl
/-- What an append onto a row of the call's own leaves as it was. -/
structure Gr (W : World) (v : Value) (w' : World) (v' : Value) : Prop where
  grown : W.grownBy w' v.ownBlock
  own : ∀ k, v'.ownBlock = some k → v.ownBlock = some k ∨ W.heap.size ≤ k
theorem Gr.trans {W w1 w2 : World} {v v1 v2 : Value} (h : Gr W v w1 v1) (k : Gr w1 v1 w2 v2) : Gr W v w2 v2 := by
  refine ⟨⟨k.grown.os.trans h.grown.os, k.grown.tape.trans h.grown.tape, k.grown.output.trans h.grown.output, Nat.le_trans h.grown.size k.grown.size, fun i hi hne => ?_⟩, fun i hi => ?_⟩
  · refine (k.grown.block i (Nat.lt_of_lt_of_le hi h.grown.size) (fun e => ?_)).trans (h.grown.block i hi hne)
    rcases h.own i e.symm with h1 | h1
    · exact hne h1.symm
    · omega
  · rcases k.own i hi with h1 | h1
    · exact h.own i h1
    · exact .inr (Nat.le_trans h.grown.size h1)
theorem Gr.refl (W : World) (v : Value) : Gr W v W v := ⟨⟨rfl, rfl, rfl, Nat.le_refl _, fun _ _ _ => rfl⟩, fun _ h => .inl h⟩
theorem grown_alloc {W w' : World} {o : Obj} {row : Option Nat} (h : (W.alloc o).grownBy w' row) : W.grownBy w' row :=
  ⟨h.os, h.tape, h.output, Nat.le_trans (by simp) h.size, fun k hk hne => (h.block k (by simp; omega) hne).trans (Below.heap_alloc W o k hk)⟩
/-- append(s, x) of one byte, s of the call's own. -/
theorem app_u8 {ops : Array Oper} {rest : List Oper} {o : Oper} {a : Act} {Q : Exit → Act → World → Prop} (hgd : o.guard = none) (s x : Operand)
    (ho : o.op = .call { callee := .builtin .append, args := #[s, x], argTypes := #[50, 50] }) (W : World) (B n : Nat) (v : Value) (xs : List Value) (r : Int) (hs : a.eval s = v) (N : Nat) (hN : W.heap.size = N) (hx : a.eval x = .slice (some ⟨N, 0, none⟩) 1 1)
    (hown : W.ownsRow B 5 1 v n xs) (hn : n ≤ 1000000000) (hB : B ≤ W.heap.size)
    (h : ∀ v' w', w'.ownsRow B 5 1 v' (n + 1) (xs ++ [.int .u8 r]) → Gr W v w' v' → wpList Try.prog ops Q rest (a.put o.dst v') w') :
    wpList Try.prog ops Q (o :: rest) a (W.alloc (.cells #[.int .u8 r] 5)) := by
  subst hN
  obtain ⟨i0, hi, hz0, hz1, hz2⟩ := info_parts Pu.Try.info_u8
  refine wpList_append_own_at _ hgd s x 50 ho B 5 i0 (.int .u8 0) 1 1 Try.underlying50 hi hz0 hz1 hz2 rfl (by decide) v n xs hs (hown.alloc _) ⟨W.heap.size, 0, none⟩ 1 1 [.int .u8 r] hx rfl
    (World.news_of_block (heap_new W _)) (fun u hu => by simp at hu; subst hu; rfl) (by unfold maxLen; omega) (by omega) (by simp; omega) (fun v' w' h1 h2 _ h4 => h v' w' h1 ⟨grown_alloc h2, fun k hk => ?_⟩)
  rcases h4 with h4 | h4
  · exact .inl (h4 ▸ hk)
  · right
    rw [hk] at h4
    simp at h4
    omega

/-- A row of bytes of a call's own. -/
structure By (B : Nat) (w : World) (v : Value) (l : List Int) : Prop where
  own : w.ownsRow B 5 1 v l.length (ivs .u8 l)
  lo : B ≤ w.heap.size
theorem By.step {B : Nat} {w w' : World} {v : Value} {l : List Int} (h : By B w v l) (hb : Below w.heap.size w w') : By B w' v l := ⟨own_below h.own hb, Nat.le_trans h.lo hb.size⟩
theorem By.put {B n : Nat} {w w' : World} {v v' : Value} {l : List Int} {r : Int} (h : By B w v l) (hn : l.length = n) (h1 : w'.ownsRow B 5 1 v' (n + 1) (ivs .u8 l ++ [.int .u8 r])) (h2 : Gr w v w' v') : By B w' v' (l ++ [r]) := by
  subst hn
  exact ⟨by rw [ivs_snoc, List.length_append]; exact h1, Nat.le_trans h.lo h2.grown.size⟩

set_option maxRecDepth 100000 in
set_option maxHeartbeats 2000000 in
theorem adig_any {B : Nat} {w : World} {v : Value} {l : List Int} (h : By B w v l) (hl : l.length ≤ 100000) (d : Int) (h0 : 0 ≤ d) (h1 : d < 36) :
    Calls Try.prog 38 #[v, .int .i64 d] w fun e w' => ∃ v', e = .returned v' ∧ By B w' v' (l ++ [dgP d]) ∧ Gr w v w' v' := by
  have HD := hid (digit_yes d w h0 h1)
  have HB := hid h
  generalize hn : l.length = n at hl
  have HN := hid hn
  clear h h0 h1 hn
  generalize dgP d = g at *
  go_enter Try.func38, Try.ntmps38
  go_wp2_with (first | (go_at_call 14; refine HD.out.mono ?_; rintro e w1 ⟨rfl, rfl⟩) | (at_builtin; refine app_u8 rfl (.tmp 12) (.tmp 14) rfl w1 B n v (ivs .u8 l) g rfl w1.heap.size rfl rfl (by have := HB.out.own; rw [HN.out] at this; exact this) (by omega) HB.out.lo (fun v' w' h1 h2 => ?_)))
  go_ret
  exact ⟨_, rfl, HB.out.put HN.out h1 h2, h2⟩

/-- A delta's digits. -/
def wrF : Nat → Int → Int → Int → List Int
  | 0, _, _, _ => []
  | n + 1, d, k, b => if d < thP k b then [dgP d] else dgP (thP k b + (d - thP k b) % (36 - thP k b)) :: wrF n ((d - thP k b) / (36 - thP k b)) (k + 36) b
theorem th_bd (k b : Int) : 1 ≤ thP k b ∧ thP k b ≤ 26 := by
  unfold thP
  split
  · omega
  · split <;> omega
theorem q_lt (d k b : Int) (h : ¬ d < thP k b) : 0 ≤ (d - thP k b) / (36 - thP k b) ∧ (d - thP k b) / (36 - thP k b) < d := by
  have ht := th_bd k b
  generalize thP k b = t at *
  have h1 : 0 ≤ (d - t) / (36 - t) := Int.ediv_nonneg (by omega) (by omega)
  have h2 : (d - t) / (36 - t) ≤ d - t := Int.ediv_le_self _ (by omega)
  omega
theorem wrF_eq : ∀ (n m : Nat) (d k b : Int), 0 ≤ d → d.toNat < n → d.toNat < m → wrF n d k b = wrF m d k b
  | 0, _, _, _, _, _, h, _ => by omega
  | _ + 1, 0, _, _, _, _, _, h => by omega
  | n + 1, m + 1, d, k, b, h0, h1, h2 => by
    simp only [wrF]
    split
    · rfl
    · rename_i h
      have := q_lt d k b h
      rw [wrF_eq n m _ _ _ this.1 (by omega) (by omega)]
def wrP (d b : Int) : List Int := wrF (d.toNat + 1) d 36 b
theorem wrF_len : ∀ (n : Nat) (d k b : Int), (wrF n d k b).length ≤ n
  | 0, _, _, _ => by simp [wrF]
  | n + 1, d, k, b => by
    simp only [wrF]
    split
    · simp
    · have := wrF_len n ((d - thP k b) / (36 - thP k b)) (k + 36) b
      simp; omega

set_option maxRecDepth 100000 in
set_option maxHeartbeats 4000000 in
theorem adel_any {B : Nat} {w : World} {v : Value} {l : List Int} (h : By B w v l) (hl : l.length + 100 ≤ 90000) (d b : Int) (h0 : 0 ≤ d) (h1 : d ≤ 2147483647) (hb : -1000000000 ≤ b ∧ b ≤ 1000000000) (hs : (wrP d b).length ≤ 100) :
    Calls Try.prog 27 #[v, .int .i64 d, .int .i64 b] w fun e w' => ∃ v', e = .returned v' ∧ By B w' v' (l ++ wrP d b) ∧ Gr w v w' v' := by
  have HB := hid h
  have HT := hid (fun (k : Int) (W : World) (hk : 0 ≤ k ∧ k ≤ 1000000000000) => thr_any k b W (by omega) (by omega))
  have HA := hid (fun (W : World) (v : Value) (l : List Int) (h : By B W v l) (hl : l.length ≤ 100000) (d : Int) (h0 : 0 ≤ d) (h1 : d < 36) => adig_any h hl d h0 h1)
  have HL : Hid (l.length + 100 ≤ 90000) := hl
  have HSz : Hid ((l ++ wrP d b).length ≤ 100000) := by show _ ≤ _; rw [List.length_append]; omega
  have H0 := hid (Gr.refl w v)
  clear h hl hs
  go_enter Try.func27, Try.ntmps27
  go_wp2_with fail
  go_loopg [0, 1, 7] (d.toNat + 1) (fun gg vo vd vk wr => ∃ (dc k : Int) (acc : List Int), vd = .int .i64 dc ∧ vk = .int .i64 k ∧ 0 ≤ dc ∧ dc ≤ 2147483647 ∧ 0 ≤ k ∧ k + 36 * dc ≤ 36 + 36 * d ∧ gg = dc.toNat + 1 ∧ Hid (acc ++ wrF (dc.toNat + 1) dc k b = l ++ wrP d b ∧ By B wr vo acc ∧ Gr w v wr vo))
  case atStart => exact ⟨d, 36, l, rfl, rfl, h0, h1, by omega, by omega, rfl, rfl, HB.out, H0.out⟩
  case round =>
    obtain ⟨dc, k, acc, rfl, rfl, c0, c1, k0, k1, hg, H⟩ := hrel
    have HG := hid hg
    have HTk := hid (HT.out k wr (by omega))
    have ht := th_bd k b
    have hacc : Hid (acc.length ≤ 100000) := by
      show _ ≤ _
      have h1 := congrArg List.length H.out.1
      have h2 := HSz.out
      rw [List.length_append] at h1
      omega
    have HW : Hid (wrF (dc.toNat + 1) dc k b = if dc < thP k b then [dgP dc] else dgP (thP k b + (dc - thP k b) % (36 - thP k b)) :: wrF dc.toNat ((dc - thP k b) / (36 - thP k b)) (k + 36) b) := rfl
    have HQ : Hid (¬ dc < thP k b → 0 ≤ (dc - thP k b) / (36 - thP k b) ∧ (dc - thP k b) / (36 - thP k b) < dc) := q_lt dc k b
    clear hg h0 hb
    generalize thP k b = t at *
    by_cases hd : dc < t
    · have HE : Hid (acc ++ [dgP dc] = l ++ wrP d b) := by show _ = _; rw [← H.out.1, HW.out, if_pos hd]
      have HAd := hid (HA.out wr u0 acc H.out.2.1 hacc.out dc c0 (by omega))
      clear HW HQ
      go_wp2_with fail
      refine HTk.out.mono ?_
      rintro e w1 ⟨rfl, rfl⟩
      go_wp2_with fail
      refine HAd.out.mono ?_
      rintro e w2 ⟨v2, rfl, hb2, hb3⟩
      have H2 : Hid (By B w2 v2 (l ++ wrP d b) ∧ Gr w v w2 v2) := ⟨by rw [← HE.out]; exact hb2, H.out.2.2.trans hb3⟩
      clear hb2 hb3
      go_wp2_with fail
      go_ret
      exact ⟨_, rfl, H2.out.1, H2.out.2⟩
    · obtain ⟨q0, q1⟩ := HQ.out hd
      obtain ⟨r, hr⟩ : ∃ r, (dc - t) % (36 - t) = r := ⟨_, rfl⟩
      obtain ⟨q, hq⟩ : ∃ q, (dc - t) / (36 - t) = q := ⟨_, rfl⟩
      have r0 : 0 ≤ r := by rw [← hr]; exact Int.emod_nonneg _ (by omega)
      have r1 : r < 36 - t := by rw [← hr]; exact Int.emod_lt_of_pos _ (by omega)
      rw [hq] at q0 q1 HW
      rw [hr] at HW
      have HE : Hid ((acc ++ [dgP (t + r)]) ++ wrF (q.toNat + 1) q (k + 36) b = l ++ wrP d b) := by
        show _ = _
        rw [← H.out.1, HW.out, if_neg hd, wrF_eq (q.toNat + 1) dc.toNat q (k + 36) b q0 (by omega) (by omega)]
        simp
      have HAd := hid (HA.out wr u0 acc H.out.2.1 hacc.out (t + r) (by omega) (by omega))
      have g1 : ¬ (36 - t = 0) := by omega
      have g2 : ¬ dc < t := hd
      clear HW HQ hd
      go_wp2_with fail
      refine HTk.out.mono ?_
      rintro e w1 ⟨rfl, rfl⟩
      go_wp2_with fail
      refine HAd.out.mono ?_
      rintro e w2 ⟨v2, rfl, hb2, hb3⟩
      have H2 : Hid (By B w2 v2 (acc ++ [dgP (t + r)]) ∧ Gr w v w2 v2) := ⟨hb2, H.out.2.2.trans hb3⟩
      clear hb2 hb3
      go_wp2_with fail
      go_roundg (q.toNat + 1)
      case measure => rw [HG.out]; omega
      case rel => exact ⟨q, k + 36, acc ++ [dgP (t + r)], by first | rfl | (rw [hq]), by go_num, q0, by omega, by omega, by omega, rfl, HE.out, H2.out.1, H2.out.2⟩
end Pu
end Go.Proofs.Ytoknfhjclpdihaa
