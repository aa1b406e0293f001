import Derived.Test.YtemdmalcoemhnabAp1x4
import Derived.Deep.RegionLaw
import Derived.Maps.AppendAt
namespace Go.Proofs.Ytemdmalcoemhnab
namespace Ma
open Go.RowKit Od

/-- The parts between full stops; joined again. -/
def splP : List Int → List (List Int)
  | [] => [[]]
  | x :: l => if x = 46 then [] :: splP l else match splP l with
    | [] => [[x]]
    | p :: ps => (x :: p) :: ps
def jnP : List (List Int) → List Int
  | [] => []
  | [p] => p
  | p :: q :: ps => p ++ 46 :: jnP (q :: ps)
theorem spl_ne : ∀ l, splP l ≠ []
  | [] => by simp [splP]
  | x :: l => by
    simp only [splP]
    split
    · simp
    · split <;> simp
theorem spl_cut : ∀ (A B : List Int), 46 ∉ A → splP (A ++ 46 :: B) = A :: splP B
  | [], B, _ => by simp [splP]
  | x :: A, B, h => by
    have h1 : x ≠ 46 := fun e => h (by rw [e]; exact List.mem_cons_self)
    have h2 := spl_cut A B (fun m => h (List.mem_cons_of_mem _ m))
    rw [List.cons_append, splP, if_neg h1, h2]
theorem spl_one : ∀ (A : List Int), 46 ∉ A → splP A = [A]
  | [], _ => rfl
  | x :: A, h => by
    have h1 : x ≠ 46 := fun e => h (by rw [e]; exact List.mem_cons_self)
    rw [splP, if_neg h1, spl_one A (fun m => h (List.mem_cons_of_mem _ m))]
theorem spl_stop : ∀ (l : List Int), splP (l ++ [46]) = splP l ++ [[]]
  | [] => by simp [splP]
  | x :: l => by
    rw [List.cons_append, splP, splP, spl_stop l]
    split
    · rfl
    · cases h : splP l with
      | nil => exact absurd h (spl_ne l)
      | cons p ps => rfl
theorem spl_more : ∀ (l : List Int) (x : Int), x ≠ 46 → ∀ A p, splP l = A ++ [p] → splP (l ++ [x]) = A ++ [p ++ [x]]
  | [], x, hx, A, p, h => by
    have h1 : A = [] ∧ p = [] := by
      match A, h with
      | [], h => simp [splP] at h; exact ⟨rfl, h⟩
      | a :: A, h => simp [splP] at h
    obtain ⟨rfl, rfl⟩ := h1
    rw [List.nil_append, splP, if_neg hx]; rfl
  | y :: l, x, hx, A, p, h => by
    rw [List.cons_append, splP]
    rw [splP] at h
    by_cases hy : y = 46
    · rw [if_pos hy] at h ⊢
      match A, h with
      | [], h =>
        simp at h
        exact absurd h.2 (spl_ne l)
      | a :: A, h =>
        simp at h
        rw [spl_more l x hx A p h.2, ← h.1]; rfl
    · rw [if_neg hy] at h ⊢
      cases hs : splP l with
      | nil => exact absurd hs (spl_ne l)
      | cons q qs =>
        rw [hs] at h
        match A, h with
        | [], h =>
          simp at h
          have := spl_more l x hx [] q (by rw [hs, h.2]; rfl)
          rw [this, ← h.1]; rfl
        | a :: A, h =>
          simp at h
          have := spl_more l x hx (q :: A) p (by rw [hs, h.2]; rfl)
          rw [this, ← h.1]; rfl
theorem jn_cons (p : List Int) {ps : List (List Int)} (h : ps ≠ []) : jnP (p :: ps) = p ++ 46 :: jnP ps := by
  match ps, h with
  | q :: ps, _ => rfl
theorem jn_spl : ∀ l, jnP (splP l) = l
  | [] => rfl
  | x :: l => by
    rw [splP]
    by_cases h : x = 46
    · rw [if_pos h, jn_cons [] (spl_ne l), jn_spl l, h]; rfl
    · rw [if_neg h]
      have ih := jn_spl l
      cases hs : splP l with
      | nil => exact absurd hs (spl_ne l)
      | cons p ps =>
        rw [hs] at ih
        show jnP ((x :: p) :: ps) = x :: l
        match ps, ih with
        | [], ih => rw [← ih]; rfl
        | q :: ps, ih =>
          rw [jn_cons p (by simp)] at ih
          rw [jn_cons (x :: p) (by simp), ← ih]; rfl
theorem jn_snoc : ∀ (ps : List (List Int)) (q : List Int), ps ≠ [] → jnP (ps ++ [q]) = jnP ps ++ [46] ++ q
  | [], _, h => absurd rfl h
  | [p], q, _ => by simp [jnP]
  | p :: p' :: ps, q, _ => by
    have := jn_snoc (p' :: ps) q (by simp)
    rw [List.cons_append, jn_cons p (by simp), this, jn_cons p (by simp)]
    simp
theorem spl_len : ∀ l : List Int, (splP l).length ≤ l.length + 1
  | [] => by simp [splP]
  | x :: l => by
    have := spl_len l
    rw [splP]
    split
    · simp; omega
    · cases h : splP l with
      | nil => simp
      | cons p ps => rw [h] at this; simp at this ⊢; omega
theorem spl_mem : ∀ (l : List Int), ∀ p ∈ splP l, p.length ≤ l.length ∧ ∀ x ∈ p, x ∈ l
  | [], p, h => by simp [splP] at h; subst h; simp
  | x :: l, p, h => by
    rw [splP] at h
    by_cases hx : x = 46
    · rw [if_pos hx] at h
      rcases List.mem_cons.1 h with rfl | h
      · exact ⟨Nat.zero_le _, fun y hy => by simp at hy⟩
      · have := spl_mem l p h
        exact ⟨by simp; omega, fun y hy => List.mem_cons_of_mem _ (this.2 y hy)⟩
    · rw [if_neg hx] at h
      cases hs : splP l with
      | nil => exact absurd hs (spl_ne l)
      | cons q qs =>
        rw [hs] at h
        rcases List.mem_cons.1 h with rfl | h
        · have := spl_mem l q (by rw [hs]; exact List.mem_cons_self)
          refine ⟨by simp; omega, fun y hy => ?_⟩
          rcases List.mem_cons.1 hy with rfl | hy
          · exact List.mem_cons_self
          · exact List.mem_cons_of_mem _ (this.2 y hy)
        · have := spl_mem l p (by rw [hs]; exact List.mem_cons_of_mem _ h)
          exact ⟨by simp; omega, fun y hy => List.mem_cons_of_mem _ (this.2 y hy)⟩
end Ma
end Go.Proofs.Ytemdmalcoemhnab

namespace Go.Proofs.Ytemdmalcoemhnab
namespace Ma
open Go.RowKit Od

theorem hr8 {p : Prop} (h : p) : Hid p := h
/-- Where a full stop stands first. -/
def IxP (X : List Int) (z : Int) : Prop := (z = -1 ∧ 46 ∉ X) ∨ ∃ i : Nat, z = i ∧ i < X.length ∧ X = X.take i ++ 46 :: X.drop (i + 1) ∧ 46 ∉ X.take i
set_option maxRecDepth 100000 in
set_option maxHeartbeats 2000000 in
theorem ix_any {w : World} {v : Value} {zs : List Int} (h : Sl .i32 w v zs) (hn : zs.length ≤ 1000000) :
    Calls Try.prog 27 #[v, .int .i32 46] w fun e w' => ∃ z : Int, e = .returned (.int .i64 z) ∧ IxP zs z ∧ w' = w := by
  obtain ⟨ao, cap, rfl, h⟩ := h
  have HS := hr8 h
  clear h
  generalize hlen : zs.length = len at *
  have HLn := hr8 hlen
  clear hlen
  go_enter Try.func27, Try.ntmps27
  go_wp2_with fail
  go_loop [8] (fun vi => ∃ k : Nat, k ≤ len ∧ vi = .int .i64 k ∧ Hid (46 ∉ zs.take k)) (fun vi => len - (intOf vi).toNat)
  case atStart => exact ⟨0, Nat.zero_le _, rfl, fun h => by simp at h⟩
  case round =>
    obtain ⟨k, hk, rfl, H⟩ := hrel
    by_cases hlt : k < len
    · have hlx : k < zs.length := by rw [HLn.out]; exact hlt
      obtain ⟨b, off, rfl, hb, c1⟩ := HS.out.at_ k hlx
      have z1 : (k : Int) < (len : Int) := by omega
      by_cases he : zs[k] = 46
      · have HE : Hid (IxP zs (k : Int)) := .inr ⟨k, rfl, hlx, by rw [← he, ← List.drop_eq_getElem_cons hlx, List.take_append_drop], H.out⟩
        rw [he] at c1
        go_wp2_with fail
        try rw [Exit.noGoto_ret]
        go_ret
        exact ⟨_, rfl, HE.out, rfl⟩
      · have HN : Hid (46 ∉ zs.take (k + 1)) := fun h => by
          rw [List.take_succ_eq_append_getElem hlx, List.mem_append, List.mem_singleton] at h
          rcases h with h | h
          · exact H.out h
          · exact he h.symm
        generalize zs[k] = y at *
        have q : (46 == y) = false := beq_eq_false_iff_ne.2 (fun e => he e.symm)
        go_wp2_with fail
        go_round
        case rel => exact ⟨k + 1, hlt, by go_num, HN⟩
        case measure => (simp [intOf]) <;> omega
    · have z1 : ¬ (k : Int) < (len : Int) := by omega
      have HE : Hid (IxP zs (-1)) := .inl ⟨rfl, by
        have e : k = zs.length := by have := HLn.out; omega
        have := H.out
        rwa [e, List.take_length] at this⟩
      go_wp2_with fail
      go_ret
      exact ⟨_, rfl, HE.out, rfl⟩
theorem info_sl : (Try.prog.info? 22).map (fun i => (i.zero, i.size, i.bytes)) = some (some (.slice none 0 0), 1, 24) := by kernel_rfl
/-- append(parts, p): one slice of runes onto a row of the call's own. -/
theorem appS {ops : Array Oper} {rest : List Oper} {o : Oper} {a : Act} {Q : Exit → Act → World → Prop} (hgd : o.guard = none) (s x : Operand)
    (ho : o.op = .call { callee := .builtin .append, args := #[s, x], argTypes := #[35, 35] }) (W : World) (B : Nat) (v : Value) (us : List Value) (r : Value) (hr : r.oneCell' = true) (hs : a.eval s = v) (N : Nat) (hN : W.heap.size = N) (hx : a.eval x = .slice (some ⟨N, 0, none⟩) 1 1)
    (hown : W.ownsRow B 22 1 v us.length us) (hn : us.length ≤ 1000000) (hB : B ≤ W.heap.size)
    (h : ∀ v' w', w'.ownsRow B 22 1 v' (us ++ [r]).length (us ++ [r]) → Below B W w' → (W.alloc (.cells #[r] 22)).grownBy w' v.ownBlock → wpList Try.prog ops Q rest (a.put o.dst v') w') :
    wpList Try.prog ops Q (o :: rest) a (W.alloc (.cells #[r] 22)) := by
  subst hN
  obtain ⟨i0, hi, hz0, hz1, hz2⟩ := info_parts info_sl
  refine wpList_append_own_at _ hgd s x 35 ho B 22 i0 (.slice none 0 0) 1 24 Try.underlying35 hi hz0 hz1 hz2 rfl (by decide) v us.length us hs (hown.alloc _) ⟨W.heap.size, 0, none⟩ 1 1 [r] hx rfl
    (World.news_of_block (heap_new W _)) (fun u hu => by simp at hu; subst hu; exact hr) (by unfold maxLen; omega) (by omega) (by simp; omega) (fun v' w' h1 h2 _ _ => h v' w' ?_ ?_ h2)
  · rw [List.length_append]; exact h1
  · exact ((Below.refl _ _).alloc hB _).trans (below_of_grown h2 B (by simp; omega) (fun k e => (hown.lt k e).1))
/-- Parts in memory, each in a row of its own. -/
def Pts (B : Nat) (W : World) (us : List Value) (Ps : List (List Int)) : Prop := us.length = Ps.length ∧ ∀ j (h : j < us.length) (h' : j < Ps.length), W.ownsRow B 21 1 us[j] Ps[j].length (ivs .i32 Ps[j])
theorem own_ne {W : World} {B B' n n' : Nat} {v v' : Value} {xs xs' : List Value} (h : W.ownsRow B 21 1 v n xs) (h' : W.ownsRow B' 22 1 v' n' xs') : v.ownBlock = none ∨ v.ownBlock ≠ v'.ownBlock := by
  rcases h.2 with ⟨rfl, _⟩ | ⟨g, cap, cur, rfl, _, hg, _⟩
  · exact .inl rfl
  · refine .inr (fun e => ?_)
    rcases h'.2 with ⟨rfl, _⟩ | ⟨g', cap', cur', rfl, _, hg', _⟩
    · simp [Value.ownBlock] at e
    · simp [Value.ownBlock] at e
      subst e
      rw [hg] at hg'
      simp at hg'
theorem Pts.grown {B B' n : Nat} {W W' : World} {us : List Value} {Ps : List (List Int)} {v : Value} {xs : List Value} (h : Pts B W us Ps) (hv : W.ownsRow B' 22 1 v n xs) (hg : W.grownBy W' v.ownBlock) : Pts B W' us Ps := ⟨h.1, fun j hj hj' => (h.2 j hj hj').kept hg (own_ne (h.2 j hj hj') hv)⟩
theorem Pts.below {B : Nat} {W W' : World} {us : List Value} {Ps : List (List Int)} (h : Pts B W us Ps) (hb : Below W.heap.size W W') : Pts B W' us Ps := ⟨h.1, fun j hj hj' => (h.2 j hj hj').kept (row := none) ⟨hb.os, hb.tape, hb.output, hb.size, fun k hk _ => hb.block k hk⟩ (by cases hv : us[j].ownBlock <;> simp)⟩
theorem own_below {B n : Nat} {e : TypeId} {W W' : World} {v : Value} {xs : List Value} (h : W.ownsRow B e 1 v n xs) (hb : Below W.heap.size W W') : W'.ownsRow B e 1 v n xs := h.kept (row := none) ⟨hb.os, hb.tape, hb.output, hb.size, fun k hk _ => hb.block k hk⟩ (by cases hv : v.ownBlock <;> simp)
theorem Pts.snoc {B : Nat} {W : World} {us : List Value} {Ps : List (List Int)} {u : Value} {p : List Int} (h : Pts B W us Ps) (hu : W.ownsRow B 21 1 u p.length (ivs .i32 p)) : Pts B W (us ++ [u]) (Ps ++ [p]) := by
  refine ⟨by simp [h.1], fun j hj hj' => ?_⟩
  by_cases e : j < us.length
  · rw [List.getElem_append_left e]
    have e' : j < Ps.length := by rw [← h.1]; exact e
    simp only [List.getElem_append_left e']
    exact h.2 j e e'
  · have e1 : j = us.length := by simp at hj; omega
    subst e1
    have e2 : (Ps ++ [p])[us.length] = p := by
      rw [List.getElem_append_right (by rw [h.1]; exact Nat.le_refl _)]
      simp [h.1]
    rw [e2]
    simpa using hu
theorem own_one {W : World} {B n : Nat} {e : TypeId} {v : Value} {xs : List Value} (h : W.ownsRow B e 1 v n xs) : v.oneCell' = true := by
  rcases h.2 with ⟨rfl, _⟩ | ⟨g, cap, cur, rfl, _⟩ <;> rfl
end Ma
end Go.Proofs.Ytemdmalcoemhnab

namespace Go.Proofs.Ytemdmalcoemhnab
namespace Ma
open Go.RowKit Od

/-- append([]rune(nil), l...): a row of its own. -/
theorem app32n {ops : Array Oper} {rest : List Oper} {o : Oper} {a : Act} {Q : Exit → Act → World → Prop} (hgd : o.guard = none) (x : Operand)
    (ho : o.op = .call { callee := .builtin .append, args := #[.const (.slice none 0 0), x], argTypes := #[22, 22] }) (W : World) (B : Nat) (u : Value) (zs : List Int) (hx : a.eval x = u)
    (hz : Sl .i32 W u zs) (hn : zs.length ≤ 1000000) (hB : B ≤ W.heap.size)
    (h : ∀ v' w', w'.ownsRow B 21 1 v' zs.length (ivs .i32 zs) → Below W.heap.size W w' → wpList Try.prog ops Q rest (a.put o.dst v') w') :
    wpList Try.prog ops Q (o :: rest) a W := by
  refine Ap.app32 hgd (.const (.slice none 0 0)) x ho W B (.slice none 0 0) u [] zs rfl hx (World.ownsRow_nil W B 21 1) hz (by simp; omega) hB (fun v' w' h1 h2 h3 => h v' w' h1 ⟨h2.os, h2.tape, h2.output, h2.size, fun k hk => h3 k hk (by simp [Value.ownBlock])⟩)
theorem sl_take {k : IntKind} {w : World} {ao : Option Addr} {cap : Nat} {zs : List Int} (h : SlP k w ao cap zs) (i : Nat) (hi : i ≤ zs.length) : Sl k w (.slice ao i cap) (zs.take i) := by
  have e : (zs.take i).length = i := by rw [List.length_take]; omega
  refine ⟨ao, cap, by rw [e], by rw [e]; exact Nat.le_trans hi h.fits, fun hn => ?_, fun j hj => ?_⟩
  · have := h.none_ hn
    exact ⟨by rw [e]; omega, this.2⟩
  · obtain ⟨b, off, e1, hb, hc⟩ := h.at_ j (by rw [e] at hj; omega)
    exact ⟨b, off, e1, hb, by rw [hc]; simp⟩
theorem sl_drop {k : IntKind} {w : World} {b off cap : Nat} {zs : List Int} (h : SlP k w (some ⟨b, off, none⟩) cap zs) (i : Nat) (hi : i ≤ zs.length) : Sl k w (.slice (some ⟨b, off + i, none⟩) (zs.length - i) (cap - i)) (zs.drop i) := by
  have hf := h.fits
  refine ⟨some ⟨b, off + i, none⟩, cap - i, by rw [List.length_drop], by rw [List.length_drop]; omega, fun e => (by cases e), fun j hj => ?_⟩
  rw [List.length_drop] at hj
  obtain ⟨b', off', e1, hb, hc⟩ := h.at_ (i + j) (by omega)
  injection e1 with e1
  injection e1 with e2 e3 _
  subst e2 e3
  exact ⟨b, off + i, rfl, hb, by rw [Nat.add_assoc, hc]; simp⟩
/-- What a round of Split keeps. -/
structure Sp (w : World) (X R : List Int) (vl vp : Value) (us : List Value) (Ps : List (List Int)) (W : World) : Prop where
  l : Sl .i32 w vl R
  all : splP X = Ps ++ splP R
  row : W.ownsRow w.heap.size 22 1 vp us.length us
  pts : Pts w.heap.size W us Ps
  ok : Ok w.heap.size w W
  len : us.length + R.length ≤ X.length
/-- A part is put. -/
theorem Sp.put {w W w1 w2 : World} {X R A : List Int} {vl vp v1 v2 : Value} {us : List Value} {Ps : List (List Int)} (h : Sp w X R vl vp us Ps W) (h1 : w1.ownsRow w.heap.size 21 1 v1 A.length (ivs .i32 A)) (hb1 : Below W.heap.size W w1)
    (h2 : w2.ownsRow w.heap.size 22 1 v2 (us ++ [v1]).length (us ++ [v1])) (hb2 : Below w.heap.size w1 w2) (hg : (w1.alloc (.cells #[v1] 22)).grownBy w2 vp.ownBlock) :
    w2.ownsRow w.heap.size 22 1 v2 (us ++ [v1]).length (us ++ [v1]) ∧ Pts w.heap.size w2 (us ++ [v1]) (Ps ++ [A]) ∧ Ok w.heap.size w w2 := by
  have ok1 := h.ok.step hb1
  refine ⟨h2, ?_, ⟨ok1.1.trans hb2, Nat.le_trans ok1.2 hb2.size⟩⟩
  have hrow1 := (own_below h.row hb1).alloc (.cells #[v1] 22)
  have hp := ((h.pts.below hb1).snoc h1).below ((Below.refl _ _).alloc (Nat.le_refl _) (.cells #[v1] 22))
  exact hp.grown hrow1 hg
set_option maxRecDepth 100000 in
set_option maxHeartbeats 4000000 in
theorem split_any {w : World} {v : Value} {X : List Int} (hS : Sl .i32 w v X) (hn : X.length ≤ 1000) :
    Calls Try.prog 12 #[v] w fun e w' => ∃ v' us, e = .returned v' ∧ w'.ownsRow w.heap.size 22 1 v' us.length us ∧ Pts w.heap.size w' us (splP X) ∧ Below w.heap.size w w' := by
  have H0 : Hid (Sp w X X v (.slice none 0 0) [] [] w) := ⟨hS, rfl, World.ownsRow_nil _ _ _ _, ⟨rfl, fun j hj _ => by simp at hj⟩, Ok.start w, by simp⟩
  clear hS
  go_enter Try.func12, Try.ntmps12
  go_wp2_with fail
  go_loopg [0, 3] (X.length + 1) (fun gg vl vp wr => ∃ (R : List Int) (us : List Value) (Ps : List (List Int)), gg = R.length + 1 ∧ Hid (Sp w X R vl vp us Ps wr))
  case atStart => exact ⟨X, [], [], rfl, H0.out⟩
  case round =>
    obtain ⟨R, us, Ps, hg, H⟩ := hrel
    have HG := hr8 hg
    clear hg H0
    have hlr := H.out.len
    have HIx := hr8 (ix_any (H.out.l.step H.out.ok.1) (by omega))
    obtain ⟨ao, cap, rfl, hSp⟩ := H.out.l
    have HSp := hr8 hSp
    clear hSp
    go_wp2_with fail
    refine HIx.out.mono ?_
    rintro e W1 ⟨z, rfl, hz, rfl⟩
    rcases hz with ⟨rfl, hz⟩ | ⟨i, rfl, hi, hc, hz⟩
    · have HA : Hid (splP X = Ps ++ [R]) := by show _ = _; rw [H.out.all, spl_one R hz]
      have HSr : Hid (Sl .i32 W1 (.slice ao R.length cap) R) := H.out.l.step H.out.ok.1
      have hRl : R.length ≤ 1000000 := by omega
      have hul : us.length ≤ 1000000 := by omega
      clear hz HIx
      go_wp2_with (first
        | (at_builtin; refine app32n rfl (.tmp 10) rfl W1 w.heap.size (.slice ao R.length cap) R (by rfl) HSr.out hRl H.out.ok.2 (fun v1 w1 h1 hb1 => ?_); obtain ⟨a1, c1, rfl⟩ := own_slice h1; have HN := hr8 (And.intro h1 hb1); have hsz := HN.out.2.size; clear h1 hb1)
        | (at_builtin; refine appS rfl (.tmp 9) (.tmp 12) rfl w1 w.heap.size _ us (.slice a1 R.length c1) rfl (by rfl) w1.heap.size rfl (by rfl) (own_below H.out.row HN.out.2) hul (Nat.le_trans H.out.ok.2 HN.out.2.size) (fun v2 w2 h2 hb2 hg2 => ?_); have HF := hr8 (H.out.put HN.out.1 HN.out.2 h2 hb2 hg2); clear h2 hb2 hg2))
      try rw [Exit.noGoto_ret]
      go_ret
      exact ⟨_, _, rfl, HF.out.1, by rw [HA.out]; exact HF.out.2.1, HF.out.2.2.1⟩
    · obtain ⟨b, off, rfl, hb, _⟩ := HSp.out.at_ i hi
      have hfit := HSp.out.fits
      have hti : (R.take i).length = i := by rw [List.length_take]; omega
      have HSr : Hid (Sl .i32 W1 (.slice (some ⟨b, off, none⟩) i cap) (R.take i)) := (sl_take HSp.out i (by omega)).step H.out.ok.1
      have HDr : Hid (Sl .i32 w (.slice (some ⟨b, off + (i + 1), none⟩) (R.length - (i + 1)) (cap - (i + 1))) (R.drop (i + 1))) := sl_drop HSp.out (i + 1) (by omega)
      have HA : Hid (splP X = (Ps ++ [R.take i]) ++ splP (R.drop (i + 1))) := by
        show _ = _
        rw [H.out.all, hc, spl_cut _ _ hz]
        have e2 : (R.take i ++ 46 :: R.drop (i + 1)).take i = R.take i := by rw [← hc]
        have e3 : (R.take i ++ 46 :: R.drop (i + 1)).drop (i + 1) = R.drop (i + 1) := by rw [← hc]
        rw [e2, e3]
        simp
      have hRl : (R.take i).length ≤ 1000000 := by omega
      have hul : us.length ≤ 1000000 := by omega
      have HLn : Hid ((us ++ [Value.slice none 0 0]).length + (R.drop (i + 1)).length ≤ X.length) := by show _ ≤ _; rw [List.length_append, List.length_drop, List.length_singleton]; omega
      have hlen1 : (R.drop (i + 1)).length + 1 < R.length + 1 := by rw [List.length_drop]; omega
      have z0 : ¬ (i : Int) < 0 := by omega
      have z1 : (i : Int) ≤ (cap : Int) := by omega
      have z2 : (i : Int) + 1 ≤ (R.length : Int) := by omega
      have HTi := hr8 hti
      have HL1 := hr8 hlen1
      clear hz hc HIx hti hlen1
      go_wp2_with (first
        | (at_builtin; refine app32n rfl (.tmp 17) rfl W1 w.heap.size (.slice (some ⟨b, off, none⟩) i cap) (R.take i) (by rfl) HSr.out hRl H.out.ok.2 (fun v1 w1 h1 hb1 => ?_); rw [HTi.out] at h1; obtain ⟨a1, c1, rfl⟩ := own_slice h1; rw [← HTi.out] at h1; have HN := hr8 (And.intro h1 hb1); clear h1 hb1; rw [HTi.out] at HN)
        | (at_builtin; refine appS rfl (.tmp 14) (.tmp 19) rfl w1 w.heap.size _ us (.slice a1 i c1) rfl (by rfl) w1.heap.size rfl (by rfl) (own_below H.out.row HN.out.2) hul (Nat.le_trans H.out.ok.2 HN.out.2.size) (fun v2 w2 h2 hb2 hg2 => ?_); have HF := hr8 (H.out.put (A := R.take i) (by rw [HTi.out]; exact HN.out.1) HN.out.2 h2 hb2 hg2); clear h2 hb2 hg2))
      · go_roundg ((R.drop (i + 1)).length + 1)
        case measure => rw [HG.out]; exact HL1.out
        case rel =>
          have hd : R.drop (i + 1) = [] := List.drop_eq_nil_of_le (by omega)
          refine ⟨R.drop (i + 1), us ++ [.slice a1 i c1], Ps ++ [R.take i], rfl, ?_, HA.out, HF.out.1, HF.out.2.1, HF.out.2.2, by have := HLn.out; rw [List.length_append] at this ⊢; exact this⟩
          rw [hd]
          have e0 : R.length - (i + 1) = 0 := by omega
          first
            | exact ⟨_, _, rfl, Nat.zero_le _, fun e => (by cases e), fun j hj => by simp at hj⟩
            | (rw [e0]; exact ⟨_, _, rfl, Nat.zero_le _, fun e => (by cases e), fun j hj => by simp at hj⟩)
      · go_roundg ((R.drop (i + 1)).length + 1)
        case measure => rw [HG.out]; exact HL1.out
        case rel => exact ⟨R.drop (i + 1), us ++ [.slice a1 i c1], Ps ++ [R.take i], rfl, HDr.out, HA.out, HF.out.1, HF.out.2.1, HF.out.2.2, by have := HLn.out; rw [List.length_append] at this ⊢; exact this⟩
end Ma
end Go.Proofs.Ytemdmalcoemhnab

namespace Go.Proofs.Ytemdmalcoemhnab
namespace Ma
open Go.RowKit Od

theorem jn_take : ∀ (ps : List (List Int)) (k : Nat), (jnP (ps.take k)).length ≤ (jnP ps).length
  | [], _ => by simp
  | p :: ps, 0 => by simp [jnP]
  | [p], k + 1 => by simp
  | p :: q :: ps, 1 => by
    rw [jn_cons p (by simp)]
    simp [jnP]
  | p :: q :: ps, k + 2 => by
    have ih := jn_take (q :: ps) (k + 1)
    have e : (p :: q :: ps).take (k + 2) = p :: (q :: ps).take (k + 1) := rfl
    rw [e, jn_cons p (by simp), jn_cons p (by simp)]
    simp only [List.length_append, List.length_cons]
    omega
theorem jn_next (ps : List (List Int)) (k : Nat) (h : k < ps.length) : jnP (ps.take (k + 1)) = if k = 0 then ps[k] else jnP (ps.take k) ++ [46] ++ ps[k] := by
  rw [List.take_succ_eq_append_getElem h]
  by_cases e : k = 0
  · subst e; rw [if_pos rfl]; rfl
  · rw [if_neg e]
    refine jn_snoc _ _ (fun h' => ?_)
    rw [List.take_eq_nil_iff] at h'
    rcases h' with h' | h'
    · exact e h'
    · rw [h'] at h; simp at h
/-- A row of slices, opened. -/
theorem row_at {w : World} {B : Nat} {e : TypeId} {v : Value} {us : List Value} (h : w.ownsRow B e 1 v us.length us) : ∃ ao cap, v = .slice ao us.length cap ∧ us.length ≤ cap ∧ ∀ j (hj : j < us.length), ∃ g, ao = some ⟨g, 0, none⟩ ∧ g < w.heap.size ∧ w.cell? ⟨g, j, none⟩ = some us[j] := by
  rcases h.2 with ⟨rfl, h0⟩ | ⟨g, cap, cur, rfl, _, hg, hc, _, _, ht⟩
  · exact ⟨none, 0, by rw [h0], by omega, fun j hj => by omega⟩
  · refine ⟨some ⟨g, 0, none⟩, cap, rfl, hc, fun j hj => ⟨g, rfl, (Array.getElem?_eq_some_iff.1 hg).1, ?_⟩⟩
    have hc2 := h.cells (g := g) rfl j us[j] (List.getElem?_eq_getElem hj)
    have e2 : (⟨g, 0, none⟩ : Addr).add j = ⟨g, j, none⟩ := by unfold Addr.add; split <;> simp_all
    rw [e2] at hc2
    exact hc2
set_option maxRecDepth 100000 in
set_option maxHeartbeats 4000000 in
theorem join_any {w : World} {B : Nat} {v : Value} {us : List Value} {Ps : List (List Int)} (hown : w.ownsRow B 22 1 v us.length us) (hP : Pts B w us Ps) (hn : us.length ≤ 1000000) (hj : (jnP Ps).length ≤ 1000000) (hl : ∀ p ∈ Ps, p.length ≤ 1000000) :
    Calls Try.prog 14 #[v] w fun e w' => ∃ v', e = .returned v' ∧ Sl .i32 w' v' (jnP Ps) ∧ Below w.heap.size w w' := by
  obtain ⟨ao, cap, rfl, hcap, hat⟩ := row_at hown
  have HA := hr8 hat
  have HP := hr8 hP
  have HL := hr8 hl
  have HT := hr8 (jn_take Ps)
  have H0 : Hid (w.ownsRow w.heap.size 21 1 (.slice none 0 0) (jnP (Ps.take 0)).length (ivs .i32 (jnP (Ps.take 0))) ∧ Ok w.heap.size w w) := ⟨World.ownsRow_nil _ _ _ _, Ok.start w⟩
  have HLp := hr8 hP.1
  obtain ⟨n, hlen⟩ : ∃ n, us.length = n := ⟨_, rfl⟩
  have HLn := hr8 hlen
  clear hown hat hP hl
  rw [hlen]
  rw [hlen] at hn hcap HLp
  clear hlen
  go_enter Try.func14, Try.ntmps14
  go_wp2_with fail
  go_loopg [3, 8] n (fun gg vo vi wr => ∃ k : Nat, vi = .int .i64 k ∧ k ≤ n ∧ gg = n - k ∧ Hid (wr.ownsRow w.heap.size 21 1 vo (jnP (Ps.take k)).length (ivs .i32 (jnP (Ps.take k))) ∧ Ok w.heap.size w wr))
  case atStart => exact ⟨0, rfl, Nat.zero_le _, rfl, H0.out⟩
  case round =>
    obtain ⟨k, rfl, hk, hg, H⟩ := hrel
    have HG := hr8 hg
    clear hg H0
    by_cases hlt : k < n
    · have hku : k < us.length := by have := HLn.out; omega
      have hkp : k < Ps.length := by have := HLp.out; omega
      obtain ⟨g, rfl, hgl, c1⟩ := HA.out k (by omega)
      have d1 := (H.out.2.1.cell (p := ⟨g, k, none⟩) hgl).trans c1
      have hpk := HP.out.2 k hku hkp
      obtain ⟨a1, c1', hv1⟩ := own_slice hpk
      have HSb : Hid (∀ W, Below w.heap.size w W → Sl .i32 W us[k] Ps[k]) := fun W h => (own_sl hpk).step h
      rw [hv1] at d1 HSb
      have hpl := HL.out Ps[k] (List.getElem_mem hkp)
      have htl := HT.out k
      have HE := hr8 (jn_next Ps k hkp)
      have z1 : (k : Int) < (n : Int) := by omega
      clear c1 hpk hv1
      generalize Ps[k] = P at *
      by_cases hk0 : k = 0
      · subst hk0
        rw [if_pos rfl] at HE
        have hsum : (jnP (Ps.take 0)).length + P.length ≤ 1000000000 := by omega
        go_wp2_with (at_builtin; refine Ap.app32 rfl (.tmp 18) (.tmp 19) rfl wr w.heap.size _ (.slice a1 P.length c1') (jnP (Ps.take 0)) P (by rfl) (by rfl) H.out.1 (HSb.out _ H.out.2.1) hsum H.out.2.2 (fun v' w' h1 h2 _ => ?_); have H2 : Hid (w'.ownsRow w.heap.size 21 1 v' (jnP (Ps.take (0 + 1))).length (ivs .i32 (jnP (Ps.take (0 + 1)))) ∧ Ok w.heap.size w w') := ⟨by rw [HE.out]; exact h1, ok_below h2 H.out.2⟩; clear h1 h2)
        go_roundg (n - (0 + 1))
        case measure => rw [HG.out]; omega
        case rel => exact ⟨0 + 1, by go_num, by omega, rfl, H2.out⟩
      · rw [if_neg hk0] at HE
        have zk : (0 : Int) < (k : Int) := by omega
        have hle : (jnP (Ps.take k)).length ≤ 1000000000 := by omega
        have hsum : (jnP (Ps.take k) ++ [46]).length + P.length ≤ 1000000000 := by rw [List.length_append, List.length_singleton]; omega
        go_wp2_with (first
          | (at_builtin; refine app_i32 rfl (.tmp 15) (.tmp 16) rfl wr w.heap.size _ _ _ 46 (by rfl) wr.heap.size rfl (by rfl) H.out.1 hle H.out.2.2 (fun v' w' h1 h2 => ?_); have H2 : Hid (w'.ownsRow w.heap.size 21 1 v' (jnP (Ps.take k) ++ [46]).length (ivs .i32 (jnP (Ps.take k) ++ [46])) ∧ Ok w.heap.size w w') := ⟨by rw [List.length_append, ivs_snoc]; exact h1, ok_below h2 H.out.2⟩; clear h1 h2)
          | (at_builtin; refine Ap.app32 rfl (.tmp 18) (.tmp 19) rfl _ w.heap.size _ (.slice a1 P.length c1') (jnP (Ps.take k) ++ [46]) P (by rfl) (by rfl) H2.out.1 (HSb.out _ H2.out.2.1) hsum H2.out.2.2 (fun v' w' h1 h2 _ => ?_); have H3 : Hid (w'.ownsRow w.heap.size 21 1 v' (jnP (Ps.take (k + 1))).length (ivs .i32 (jnP (Ps.take (k + 1)))) ∧ Ok w.heap.size w w') := ⟨by rw [HE.out]; exact h1, ok_below h2 H2.out.2⟩; clear h1 h2))
        go_roundg (n - (k + 1))
        case measure => rw [HG.out]; omega
        case rel => exact ⟨k + 1, by go_num, by omega, rfl, H3.out⟩
    · have e : k = Ps.length := by have := HLn.out; have := HLp.out; omega
      have z1 : ¬ (k : Int) < (n : Int) := by omega
      have HF : Hid (wr.ownsRow w.heap.size 21 1 u3 (jnP Ps).length (ivs .i32 (jnP Ps)) ∧ Ok w.heap.size w wr) := by
        have := H.out
        rw [e, List.take_length] at this
        exact this
      clear H
      go_wp2_with fail
      go_ret
      exact ⟨_, rfl, own_sl HF.out.1, HF.out.2.1⟩
end Ma
end Go.Proofs.Ytemdmalcoemhnab

namespace Go.Proofs.Ytemdmalcoemhnab
namespace Ma
open Go.RowKit Od

theorem info_sl64 : (Try.prog.info? 32).map (fun i => (i.zero, i.size, i.bytes)) = some (some (.slice none 0 0), 1, 24) := by kernel_rfl
/-- append(out, p): one slice of ints onto a row of the call's own. -/
theorem appQ {ops : Array Oper} {rest : List Oper} {o : Oper} {a : Act} {Q : Exit → Act → World → Prop} (hgd : o.guard = none) (s x : Operand)
    (ho : o.op = .call { callee := .builtin .append, args := #[s, x], argTypes := #[37, 37] }) (W : World) (B n : Nat) (v : Value) (us : List Value) (r : Value) (hr : r.oneCell' = true) (hs : a.eval s = v) (N : Nat) (hN : W.heap.size = N) (hx : a.eval x = .slice (some ⟨N, 0, none⟩) 1 1)
    (hown : W.ownsRow B 32 1 v n us) (hn : n ≤ 1000000) (hB : B ≤ W.heap.size)
    (h : ∀ v' w', w'.ownsRow B 32 1 v' (n + 1) (us ++ [r]) → (W.alloc (.cells #[r] 32)).grownBy w' v.ownBlock → wpList Try.prog ops Q rest (a.put o.dst v') w') :
    wpList Try.prog ops Q (o :: rest) a (W.alloc (.cells #[r] 32)) := by
  subst hN
  obtain ⟨i0, hi, hz0, hz1, hz2⟩ := info_parts info_sl64
  exact wpList_append_own_at _ hgd s x 37 ho B 32 i0 (.slice none 0 0) 1 24 Try.underlying37 hi hz0 hz1 hz2 rfl (by decide) v n us hs (hown.alloc _) ⟨W.heap.size, 0, none⟩ 1 1 [r] hx rfl
    (World.news_of_block (heap_new W _)) (fun u hu => by simp at hu; subst hu; exact hr) (by unfold maxLen; omega) (by omega) (by simp; omega) (fun v' w' h1 h2 _ _ => h v' w' h1 h2)
/-- append(p, x) of one int onto a row of the call's own: where the row lies then. -/
theorem appX {ops : Array Oper} {rest : List Oper} {o : Oper} {a : Act} {Q : Exit → Act → World → Prop} (hgd : o.guard = none) (s x : Operand)
    (ho : o.op = .call { callee := .builtin .append, args := #[s, x], argTypes := #[32, 32] }) (W : World) (B n : Nat) (v : Value) (xs : List Value) (r : Int) (hs : a.eval s = v) (N : Nat) (hN : W.heap.size = N) (hx : a.eval x = .slice (some ⟨N, 0, none⟩) 1 1)
    (hown : W.ownsRow B 3 1 v n xs) (hn : n ≤ 1000000000) (hB : B ≤ W.heap.size)
    (h : ∀ v' w', w'.ownsRow B 3 1 v' (n + 1) (xs ++ [.int .i64 r]) → (W.alloc (.cells #[.int .i64 r] 3)).grownBy w' v.ownBlock → (v'.ownBlock = v.ownBlock ∨ v'.ownBlock = some (W.alloc (.cells #[.int .i64 r] 3)).heap.size) → wpList Try.prog ops Q rest (a.put o.dst v') w') :
    wpList Try.prog ops Q (o :: rest) a (W.alloc (.cells #[.int .i64 r] 3)) := by
  subst hN
  obtain ⟨i0, hi, hz0, hz1, hz2⟩ := info_parts Try.info_i64
  exact wpList_append_own_at _ hgd s x 32 ho B 3 i0 (.int .i64 0) 1 8 Try.underlying32 hi hz0 hz1 hz2 rfl (by decide) v n xs hs (hown.alloc _) ⟨W.heap.size, 0, none⟩ 1 1 [.int .i64 r] hx rfl
    (World.news_of_block (heap_new W _)) (fun u hu => by simp at hu; subst hu; rfl) (by unfold maxLen; omega) (by omega) (by simp; omega) (fun v' w' h1 h2 _ h4 => h v' w' h1 h2 h4)
theorem own_neq {W : World} {B B' n n' : Nat} {v v' : Value} {xs xs' : List Value} (h : W.ownsRow B 3 1 v n xs) (h' : W.ownsRow B' 32 1 v' n' xs') : v.ownBlock = none ∨ v.ownBlock ≠ v'.ownBlock := by
  rcases h.2 with ⟨rfl, _⟩ | ⟨g, cap, cur, rfl, _, hg, _⟩
  · exact .inl rfl
  · refine .inr (fun e => ?_)
    rcases h'.2 with ⟨rfl, _⟩ | ⟨g', cap', cur', rfl, _, hg', _⟩
    · simp [Value.ownBlock] at e
    · simp [Value.ownBlock] at e
      subst e
      rw [hg] at hg'
      simp at hg'
theorem own_neq' {W : World} {B B' n n' : Nat} {v v' : Value} {xs xs' : List Value} (h : W.ownsRow B 3 1 v n xs) (h' : W.ownsRow B' 32 1 v' n' xs') : v'.ownBlock = none ∨ v'.ownBlock ≠ v.ownBlock := by
  rcases own_neq h h' with e | e
  · by_cases e2 : v'.ownBlock = none
    · exact .inl e2
    · exact .inr (by rw [e]; exact e2)
  · exact .inr (Ne.symm e)
theorem own_else {W : World} {B n g i : Nat} {e : TypeId} {v y : Value} {xs : List Value} (h : W.ownsRow B e 1 v n xs) (hne : v.ownBlock = none ∨ v.ownBlock ≠ some g) : (W.setCell ⟨g, i, none⟩ y).ownsRow B e 1 v n xs := by
  refine ⟨h.1, ?_⟩
  rcases h.2 with hn | ⟨g', cap, cur, rfl, hb, hgg, rest⟩
  · exact .inl hn
  · refine .inr ⟨g', cap, cur, rfl, hb, ?_, rest⟩
    refine (Below.heap_setCell _ _ _ _ (fun e => ?_)).trans hgg
    rcases hne with hne | hne
    · simp [Value.ownBlock] at hne
    · exact hne (by simp [Value.ownBlock, e])
theorem own_put {W : World} {B n g cap i : Nat} {e : TypeId} {y : Value} {xs : List Value} (h : W.ownsRow B e 1 (.slice (some ⟨g, 0, none⟩) n cap) n xs) : (W.setCell ⟨g, i, none⟩ y).ownsRow B e 1 (.slice (some ⟨g, 0, none⟩) n cap) n (xs.set i y) := by
  refine ⟨by rw [List.length_set]; exact h.1, ?_⟩
  rcases h.2 with ⟨hn, _⟩ | ⟨g', cap', cur, hv, hb, hgg, h1, h2, h3, h4⟩
  · cases hn
  · injection hv with e1 _ e2
    injection e1 with e1
    injection e1 with e1 _ _
    subst e1 e2
    refine .inr ⟨g, cap, cur.setIfInBounds i y, rfl, hb, ?_, h1, h2, by rw [Array.size_setIfInBounds]; exact h3, ?_⟩
    · show (W.heap.modify g _)[g]? = _
      rw [Array.getElem?_modify]
      simp [hgg]
    · rw [Array.toList_setIfInBounds, List.take_set, h4]
/-- What the reference's parts keep: each in a row of its own, no two in one. -/
structure Qp (w : World) (vo : Value) (Q : List (Value × List Int)) (W : World) : Prop where
  row : W.ownsRow w.heap.size 32 1 vo Q.length (Q.map (·.1))
  own : ∀ z ∈ Q, W.ownsRow w.heap.size 3 1 z.1 z.2.length (ivs .i64 z.2)
  dis : Q.Pairwise (fun a b => a.1.ownBlock ≠ b.1.ownBlock)
  ok : Ok w.heap.size w W
theorem Qp.step {w W W' : World} {vo : Value} {Q : List (Value × List Int)} (h : Qp w vo Q W) (hb : Below W.heap.size W W') : Qp w vo Q W' := ⟨own_below h.row hb, fun z hz => own_below (h.own z hz) hb, h.dis, h.ok.step hb⟩
theorem Qp.stop {w W w' : World} {vo v' : Value} {Q : List (Value × List Int)} (h : Qp w vo Q W)
    (h2 : w'.ownsRow w.heap.size 32 1 v' (Q.length + 1) (Q.map (·.1) ++ [.slice (some ⟨W.heap.size, 0, none⟩) 0 0]))
    (hg : ((W.alloc (.cells #[] 3)).alloc (.cells #[.slice (some ⟨W.heap.size, 0, none⟩) 0 0] 32)).grownBy w' vo.ownBlock) : Qp w v' (Q ++ [(.slice (some ⟨W.heap.size, 0, none⟩) 0 0, [])]) w' := by
  have hrow := (h.row.alloc (.cells #[] 3)).alloc (.cells #[.slice (some ⟨W.heap.size, 0, none⟩) 0 0] 32)
  have hnew : (W.alloc (.cells #[] 3)).ownsRow w.heap.size 3 1 (.slice (some ⟨W.heap.size, 0, none⟩) 0 0) 0 [] := World.ownsRow_made W #[] 0 h.ok.2 (by unfold maxLen; omega) rfl
  have hnew2 := hnew.alloc (.cells #[.slice (some ⟨W.heap.size, 0, none⟩) 0 0] 32)
  refine ⟨by rw [List.length_append, List.map_append]; exact h2, fun z hz => ?_, ?_, ?_⟩
  · rcases List.mem_append.1 hz with hz | hz
    · have h1 := ((h.own z hz).alloc (.cells #[] 3)).alloc (.cells #[.slice (some ⟨W.heap.size, 0, none⟩) 0 0] 32)
      exact h1.kept hg (own_neq h1 hrow)
    · rw [List.mem_singleton] at hz
      subst hz
      exact hnew2.kept hg (own_neq hnew2 hrow)
  · rw [List.pairwise_append]
    refine ⟨h.dis, List.pairwise_singleton _ _, fun a ha b hb => ?_⟩
    rw [List.mem_singleton] at hb
    subst hb
    intro e
    have := ((h.own a ha).lt W.heap.size (by rw [e]; rfl)).2
    omega
  · have hb := below_of_grown hg w.heap.size (by have := h.ok.2; simp; omega) (fun k e => (hrow.lt k e).1)
    exact ⟨h.ok.alloc.alloc.1.trans hb, Nat.le_trans h.ok.alloc.alloc.2 hb.size⟩
theorem Qp.more {w W w' : World} {g n cap : Nat} {u v' : Value} {A : List (Value × List Int)} {p : List Int} {x : Int} (hn : n = A.length + 1) (h : Qp w (.slice (some ⟨g, 0, none⟩) n cap) (A ++ [(u, p)]) W)
    (h1 : w'.ownsRow w.heap.size 3 1 v' (p.length + 1) (ivs .i64 p ++ [.int .i64 x])) (hg : (W.alloc (.cells #[.int .i64 x] 3)).grownBy w' u.ownBlock) (hob : v'.ownBlock = u.ownBlock ∨ v'.ownBlock = some (W.alloc (.cells #[.int .i64 x] 3)).heap.size) :
    Qp w (.slice (some ⟨g, 0, none⟩) n cap) (A ++ [(v', p ++ [x])]) (w'.setCell ⟨g, A.length, none⟩ v') := by
  have hul : (A ++ [(u, p)]).length = n := by rw [List.length_append, hn]; rfl
  have hu := (h.own (u, p) (by simp)).alloc (.cells #[.int .i64 x] 3)
  have hrow := h.row.alloc (.cells #[.int .i64 x] 3)
  have hrow' := hrow.kept hg (own_neq' hu hrow)
  rw [hul, List.map_append] at hrow'
  have hlt := hrow'.lt g rfl
  refine ⟨?_, fun z hz => ?_, ?_, ?_⟩
  · have := own_put (y := v') (i := A.length) hrow'
    rw [List.set_append_right _ _ (by simp), List.length_map, Nat.sub_self] at this
    rw [List.length_append, List.map_append, hn]
    rw [hn] at this
    exact this
  · rcases List.mem_append.1 hz with hz | hz
    · have hd := (List.pairwise_append.1 h.dis).2.2 z hz (u, p) (by simp)
      have hz1 := ((h.own z (List.mem_append_left _ hz)).alloc (.cells #[.int .i64 x] 3)).kept hg (.inr hd)
      exact own_else hz1 (own_neq hz1 hrow')
    · rw [List.mem_singleton] at hz
      subst hz
      have e1 : ivs .i64 (p ++ [x]) = ivs .i64 p ++ [.int .i64 x] := ivs_snoc _ _ _
      show World.ownsRow _ _ _ _ v' (p ++ [x]).length (ivs .i64 (p ++ [x]))
      rw [e1, List.length_append]
      exact own_else h1 (own_neq h1 hrow')
  · have hd := List.pairwise_append.1 h.dis
    rw [List.pairwise_append]
    refine ⟨hd.1, List.pairwise_singleton _ _, fun a ha b hb => ?_⟩
    rw [List.mem_singleton] at hb
    subst hb
    rcases hob with e | e
    · show a.1.ownBlock ≠ v'.ownBlock
      rw [e]
      exact hd.2.2 a ha (u, p) (by simp)
    · show a.1.ownBlock ≠ v'.ownBlock
      rw [e]
      intro e2
      have := ((h.own a (List.mem_append_left _ ha)).lt _ e2).2
      simp at this
      omega
  · have hb := below_of_grown hg w.heap.size (by have := h.ok.2; simp; omega) (fun k e => (hu.lt k e).1)
    have hb2 := (h.ok.alloc.1.trans hb).setCell (p := ⟨g, A.length, none⟩) hlt.1 v'
    exact ⟨hb2, by have := Nat.le_trans h.ok.alloc.2 hb.size; simpa [World.setCell] using this⟩
end Ma
end Go.Proofs.Ytemdmalcoemhnab

namespace Go.Proofs.Ytemdmalcoemhnab
namespace Ma
open Go.RowKit Od

/-- append(p, x) of one int, as a step of a region that draws its order. -/
theorem stepX {ops : Array Oper} {o : Oper} {a : Act} {K : Act → World → Prop} {Q : Exit → Act → World → Prop} {E : Prop} (hgd : o.guard = none) (s x : Operand)
    (ho : o.op = .call { callee := .builtin .append, args := #[s, x], argTypes := #[32, 32] }) (W : World) (B n : Nat) (v : Value) (xs : List Value) (r : Int) (hs : a.eval s = v) (N : Nat) (hN : W.heap.size = N) (hx : a.eval x = .slice (some ⟨N, 0, none⟩) 1 1)
    (hown : W.ownsRow B 3 1 v n xs) (hn : n ≤ 1000000000) (hB : B ≤ W.heap.size)
    (h : ∀ v' w', w'.ownsRow B 3 1 v' (n + 1) (xs ++ [.int .i64 r]) → (W.drew.alloc (.cells #[.int .i64 r] 3)).grownBy w' v.ownBlock → (v'.ownBlock = v.ownBlock ∨ v'.ownBlock = some (W.drew.alloc (.cells #[.int .i64 r] 3)).heap.size) → K (a.put o.dst v') w') :
    if Region.wanted o (yielded ops a.tmps) = true then Oper.wp Try.prog o a (W.alloc (.cells #[.int .i64 r] 3)).drew K Q else E := by
  subst hN
  have hw : Region.wanted o (yielded ops a.tmps) = true := by simp [Region.wanted, hgd]
  rw [if_pos hw]
  obtain ⟨i0, hi, hz0, hz1, hz2⟩ := info_parts Try.info_i64
  have hown' : W.drew.ownsRow B 3 1 v n xs := hown
  obtain ⟨v', w', hr, h2, h3, h4, h5⟩ := run_append_own_at (P := Try.prog) (W.drew.alloc (.cells #[.int .i64 r] 3)) B 32 o.type 3 i0 (.int .i64 0) 1 8 Try.underlying32 hi hz0 hz1 hz2 rfl (by decide) v n xs (hown'.alloc _) ⟨W.heap.size, 0, none⟩ 1 1 [.int .i64 r] rfl
    (World.news_of_block (heap_new W.drew _)) (fun u hu => by simp at hu; subst hu; rfl) (by unfold maxLen; omega) (by omega) (Nat.le_trans hB (by simp))
  have hr' : (Builtin.append_ #[32, 32] o.type #[v, .slice (some ⟨W.heap.size, 0, none⟩) 1 1]).run Try.prog (W.alloc (.cells #[.int .i64 r] 3)).drew = .ok v' w' := hr
  unfold Oper.wp
  simp [execOp, ho, resolve, invoke, builtin, hs, hx, hr', Result.andThen]
  exact h v' w' h2 h3 h5
theorem own_cell {w : World} {B n g cap : Nat} {e : TypeId} {us : List Value} (h : w.ownsRow B e 1 (.slice (some ⟨g, 0, none⟩) n cap) n us) (j : Nat) : w.cell? ⟨g, j, none⟩ = w.cell? ⟨g, j, none⟩ ∧ w.frozen? ⟨g, j, none⟩ = false ∧ ∀ u, us[j]? = some u → w.cell? ⟨g, j, none⟩ = some u := by
  refine ⟨rfl, ?_, fun u hu => ?_⟩
  · rcases h.2 with ⟨hn, _⟩ | ⟨g', cap', cur, hv, _, hgg, _⟩
    · cases hn
    · injection hv with e1 _ _
      injection e1 with e1
      injection e1 with e1 _ _
      subst e1
      simp [World.frozen?, hgg]
  · have hc2 := h.cells (g := g) rfl j u hu
    have e2 : (⟨g, 0, none⟩ : Addr).add j = ⟨g, j, none⟩ := by unfold Addr.add; split <;> simp_all
    rw [e2] at hc2
    exact hc2
theorem Qp.lies {w W w' : World} {g n cap : Nat} {u : Value} {A : List (Value × List Int)} {p : List Int} {x : Int} (hn : n = A.length + 1) (h : Qp w (.slice (some ⟨g, 0, none⟩) n cap) (A ++ [(u, p)]) W)
    (hg : (W.alloc (.cells #[.int .i64 x] 3)).grownBy w' u.ownBlock) : w'.frozen? ⟨g, A.length, none⟩ = false ∧ w'.cell? ⟨g, A.length, none⟩ = some u := by
  have hul : (A ++ [(u, p)]).length = n := by rw [List.length_append, hn]; rfl
  have hu := (h.own (u, p) (by simp)).alloc (.cells #[.int .i64 x] 3)
  have hrow := h.row.alloc (.cells #[.int .i64 x] 3)
  have hrow' := hrow.kept hg (own_neq' hu hrow)
  rw [hul] at hrow'
  have := own_cell hrow' A.length
  exact ⟨this.2.1, this.2.2 u (by simp)⟩
theorem qp_first (w : World) : Qp w (.slice (some ⟨w.heap.size + 1, 0, none⟩) 1 1) [(.slice (some ⟨w.heap.size, 0, none⟩) 0 0, [])] ((w.alloc (.cells #[] 3)).alloc (.cells #[.slice (some ⟨w.heap.size, 0, none⟩) 0 0] 32)) := by
  have hnew : (w.alloc (.cells #[] 3)).ownsRow w.heap.size 3 1 (.slice (some ⟨w.heap.size, 0, none⟩) 0 0) 0 [] := World.ownsRow_made w #[] 0 (Nat.le_refl _) (by unfold maxLen; omega) rfl
  have hh := heap_new (w.alloc (.cells #[] 3)) (.cells #[.slice (some ⟨w.heap.size, 0, none⟩) 0 0] 32)
  rw [World.size_alloc] at hh
  refine ⟨⟨rfl, .inr ⟨w.heap.size + 1, 1, #[.slice (some ⟨w.heap.size, 0, none⟩) 0 0], rfl, by omega, hh, Nat.le_refl _, by unfold maxLen; omega, rfl, rfl⟩⟩, fun z hz => ?_, List.pairwise_singleton _ _, (Ok.start w).alloc.alloc⟩
  rw [List.mem_singleton] at hz
  subst hz
  exact hnew.alloc _
theorem last_of {α β : Type} {Q : List (α × β)} (h : Q.map (·.2) ≠ []) : ∃ A u p, Q = A ++ [(u, p)] := by
  rcases List.eq_nil_or_concat Q with rfl | ⟨A, z, rfl⟩
  · exact absurd rfl h
  · exact ⟨A, z.1, z.2, by simp⟩
set_option maxRecDepth 100000 in
set_option maxHeartbeats 4000000 in
theorem rsplit_any {w : World} {v : Value} {X : List Int} (hS : Sl .i64 w v X) (hn : X.length ≤ 1000) :
    Calls Try.prog 13 #[v] w fun e w' => ∃ v' Q, e = .returned v' ∧ Qp w v' Q w' ∧ Q.map (·.2) = splP X := by
  obtain ⟨ao, cap, rfl, hS⟩ := hS
  have HS := hr8 hS
  have H0 := hr8 (qp_first w)
  have HSz := hr8 (spl_len)
  have HMm := hr8 (spl_mem)
  generalize hlen : X.length = n at *
  have HLn := hr8 hlen
  clear hS hlen
  go_enter Try.func13, Try.ntmps13
  go_wp2_with fail
  go_loopg [3, 4] n (fun gg vo vi wr => ∃ k : Nat, vi = .int .i64 k ∧ k ≤ n ∧ gg = n - k ∧ ∃ Q : List (Value × List Int), Hid (Qp w vo Q wr ∧ Q.map (·.2) = splP (X.take k)))
  case atStart => exact ⟨0, rfl, Nat.zero_le _, rfl, _, H0.out, rfl⟩
  case round =>
    obtain ⟨k, rfl, hk, hg, Q, H⟩ := hrel
    have HG := hr8 hg
    clear hg H0
    by_cases hlt : k < n
    · have hlx : k < X.length := by have := HLn.out; omega
      obtain ⟨b, off, rfl, hb, hc⟩ := HS.out.at_ k hlx
      have d1 := (H.out.1.ok.1.cell (p := ⟨b, off + k, none⟩) hb).trans hc
      have HTk : Hid (X.take (k + 1) = X.take k ++ [X[k]]) := List.take_succ_eq_append_getElem hlx
      have hql : Q.length ≤ 1000000 := by
        have e1 : Q.length = (splP (X.take k)).length := by rw [← H.out.2, List.length_map]
        have e2 := HSz.out (X.take k)
        rw [List.length_take] at e2
        omega
      have z1 : (k : Int) < (n : Int) := by omega
      clear hc
      by_cases hx : X[k] = 46
      · have HE : Hid ((Q ++ [(Value.slice (some ⟨wr.heap.size, 0, none⟩) 0 0, ([] : List Int))]).map (·.2) = splP (X.take (k + 1))) := by show _ = _; rw [HTk.out, hx, spl_stop, ← H.out.2, List.map_append]; rfl
        rw [hx] at d1
        clear HTk hx
        go_wp2_with (at_builtin; refine appQ rfl (.tmp 18) (.tmp 20) rfl (wr.alloc (.cells #[] 3)) w.heap.size Q.length _ (Q.map (·.1)) (.slice (some ⟨wr.heap.size, 0, none⟩) 0 0) rfl (by rfl) (wr.heap.size + 1) (by simp) (by rfl) (H.out.1.row.alloc _) hql (Nat.le_trans H.out.1.ok.2 (by simp)) (fun v2 w2 h2 hg2 => ?_); have HN := hr8 (H.out.1.stop h2 hg2); clear h2 hg2)
        go_roundg (n - (k + 1))
        case measure => rw [HG.out]; omega
        case rel => exact ⟨k + 1, by go_num, by omega, rfl, _, HN.out, HE.out⟩
      · obtain ⟨A, u, p, rfl⟩ := last_of (by rw [H.out.2]; exact spl_ne _)
        have hu := H.out.1.own (u, p) (by simp)
        obtain ⟨a1, c1, hu1⟩ := own_slice hu
        have hu2 : u = .slice a1 p.length c1 := hu1
        subst hu2
        obtain ⟨a0, cap0, hvo, hc0, hat⟩ := row_at (us := (A ++ [(Value.slice a1 p.length c1, p)]).map (·.1)) (by rw [List.length_map]; exact H.out.1.row)
        have eln : ((A ++ [(Value.slice a1 p.length c1, p)]).map (·.1)).length = A.length + 1 := by simp
        obtain ⟨g, hg0, hgl, hcg⟩ := hat A.length (by rw [eln]; omega)
        rw [eln, hg0] at hvo
        subst hvo
        have hcu : wr.cell? ⟨g, A.length, none⟩ = some (.slice a1 p.length c1) := by rw [hcg]; simp
        have HE : Hid (A.map (·.2) ++ [p ++ [X[k]]] = splP (X.take (k + 1))) := by
          show _ = _
          rw [HTk.out]
          exact (spl_more (X.take k) X[k] hx _ p (by rw [← H.out.2, List.map_append]; rfl)).symm
        have hpl : p.length ≤ 1000000000 := by
          have e1 := HMm.out (X.take k) p (by rw [← H.out.2]; simp)
          have e2 := e1.1
          rw [List.length_take] at e2
          omega
        have HU := hr8 hu
        have hbw : b < wr.heap.size := Nat.lt_of_lt_of_le hb H.out.1.ok.1.size
        have hq : (X[k] == 46) = false := beq_eq_false_iff_ne.2 hx
        have HQd : Hid (Qp w (.slice (some ⟨g, 0, none⟩) (A.length + 1) cap0) (A ++ [(.slice a1 p.length c1, p)]) wr.drew) := H.out.1.step ((Below.refl _ _).drew)
        have hwr : IntKind.i64.wrap (A.length : Int) = (A.length : Int) := by rw [List.length_append] at hql; rw [IntKind.wrap_i64]; omega
        have hA0 : (0 : Int) ≤ (A.length : Int) := by omega
        have hA1 : (A.length : Int) < (A.length : Int) + 1 := by omega
        clear HTk hx hu hu1 hat hcg hg0 eln
        generalize X[k] = x at *
        go_wp2_with fail
        go_region_law (refine stepX rfl (.tmp 31) (.tmp 36) rfl wr w.heap.size p.length (.slice a1 p.length c1) (ivs .i64 p) x (by simp [Act.eval]) wr.heap.size rfl (by simp [Act.eval]) HU.out hpl H.out.1.ok.2 ?_; intro v' w' h1 hg2 hob; obtain ⟨a2, c2, rfl⟩ := own_slice h1; have HM := hr8 (HQd.out.more rfl h1 hg2 hob); obtain ⟨kf, kc⟩ := HQd.out.lies rfl hg2; clear h1 hg2 hob)
        all_goals (try go_wp2_with fail)
        all_goals go_roundg (n - (k + 1))
        all_goals first | (rw [HG.out]; omega) | exact ⟨k + 1, by go_num, by omega, rfl, _, HM.out, by rw [← HE.out, List.map_append]; rfl⟩
    · have e : k = X.length := by have := HLn.out; omega
      have z1 : ¬ (k : Int) < (n : Int) := by omega
      have HF : Hid (Q.map (·.2) = splP X) := by
        have := H.out.2
        rwa [e, List.take_length] at this
      go_wp2_with fail
      go_ret
      first | exact ⟨_, Q, rfl, H.out.1, HF.out⟩ | exact ⟨_, rfl, Q, H.out.1, HF.out⟩
end Ma
end Go.Proofs.Ytemdmalcoemhnab
