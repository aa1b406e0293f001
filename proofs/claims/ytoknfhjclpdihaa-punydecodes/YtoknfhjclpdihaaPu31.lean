import Derived.Test.YtoknfhjclpdihaaPu30
namespace Go.Proofs.Ytoknfhjclpdihaa
namespace Pu
open Go.RowKit Od

/-- A row of ints of a call's own. -/
def Own (B : Nat) (w : World) (v : Value) (l : List Int) : Prop := w.ownsRow B 3 1 v l.length (ivs .i64 l) ∧ isSome v
theorem Own.step {B : Nat} {w w' : World} {v : Value} {l : List Int} (h : Own B w v l) (hb : Below w.heap.size w w') : Own B w' v l := ⟨own_below h.1 hb, h.2⟩
theorem Own.sn {B : Nat} {w : World} {v : Value} {l : List Int} (h : Own B w v l) : Sn .i64 w v l := (own_sl h.1).sn h.2
theorem Own.base {B B' : Nat} {w : World} {v : Value} {l : List Int} (h : Own B w v l) (hB : B' ≤ B) : Own B' w v l := ⟨Od.own_base h.1 hB, h.2⟩

theorem hy_at {s : ByteArray} {i : Int} (hy : Hy (bsI s) i) {a : Nat} (h1 : a = 0 ∨ ∃ h : a - 1 < s.size, 1 ≤ a ∧ (s[a - 1].toNat : Int) = 45) (h2 : ∀ j (h : j < s.size), a ≤ j → (s[j].toNat : Int) ≠ 45) : (a : Int) = i + 1 := by
  obtain ⟨g1, g2, g3, g4⟩ := hy
  have hl := bsI_len s
  rcases Int.lt_trichotomy ((a : Int) - 1) i with hc | hc | hc
  · have h3 := g4 i.toNat (by omega) (by omega)
    have h4 := h2 i.toNat (by omega) (by omega)
    rw [bsI_get s i.toNat (by omega)] at h3
    exact absurd h3 h4
  · omega
  · rcases h1 with h1 | ⟨h3, h4, h5⟩
    · omega
    · have h6 := g3 (a - 1) (by omega) (by omega)
      rw [bsI_get s (a - 1) h3] at h6
      exact absurd h5 h6
set_option maxHeartbeats 2000000 in
theorem rcut_any (s : ByteArray) (hs : s.size ≤ 100000) (i : Int) (hy : Hy (bsI s) i) (w : World) :
    Calls Try.prog 32 #[.string s] w fun e w' => e = .returned (.int .i64 (i + 1)) ∧ w' = w := by
  have HY := hid hy
  clear hy
  go_enter Try.func32, Try.ntmps32
  go_wp2_with fail
  go_loop [3, 4] (fun va vi => ∃ k a : Nat, vi = .int .i64 k ∧ va = .int .i64 a ∧ k ≤ s.size ∧ a ≤ k ∧ Hid ((a = 0 ∨ ∃ h : a - 1 < s.size, 1 ≤ a ∧ (s[a - 1].toNat : Int) = 45) ∧ ∀ j (h : j < s.size), a ≤ j → j < k → (s[j].toNat : Int) ≠ 45)) (fun _ vi => s.size - (intOf vi).toNat)
  case atStart => exact ⟨0, 0, rfl, rfl, Nat.zero_le _, Nat.le_refl _, .inl rfl, fun j h h1 h2 => by omega⟩
  case round =>
    obtain ⟨k, a, rfl, rfl, hk, ha, H⟩ := hrel
    by_cases hlt : k < s.size
    · have z1 : (k : Int) < (s.size : Int) := by omega
      by_cases h45 : (s[k].toNat : Int) = 45
      · have HN : Hid ((k + 1 = 0 ∨ ∃ h : k + 1 - 1 < s.size, 1 ≤ k + 1 ∧ (s[k + 1 - 1].toNat : Int) = 45) ∧ ∀ j (h : j < s.size), k + 1 ≤ j → j < k + 1 → (s[j].toNat : Int) ≠ 45) := ⟨.inr ⟨hlt, by omega, h45⟩, fun j h h1 h2 => by omega⟩
        go_wp2_with fail
        go_round
        case rel => exact ⟨k + 1, k + 1, by go_num, by go_num, hlt, Nat.le_refl _, HN⟩
        case measure => (simp [intOf]) <;> omega
      · have HN : Hid ((a = 0 ∨ ∃ h : a - 1 < s.size, 1 ≤ a ∧ (s[a - 1].toNat : Int) = 45) ∧ ∀ j (h : j < s.size), a ≤ j → j < k + 1 → (s[j].toNat : Int) ≠ 45) := ⟨H.out.1, fun j h h1 h2 => by
          by_cases e : j = k
          · subst e; exact h45
          · exact H.out.2 j h h1 (by omega)⟩
        have hx0 : ((s[k].toNat : Int) == 45) = false := by simpa using h45
        go_wp2_with fail
        go_round
        case rel => exact ⟨k + 1, a, by go_num, rfl, hlt, by omega, HN⟩
        case measure => (simp [intOf]) <;> omega
    · have e : k = s.size := by omega
      subst e
      have HE := hid (hy_at HY.out H.out.1 (fun j h h1 => H.out.2 j h h1 h))
      go_wp2_with fail
      go_ret
      exact ⟨ret_int HE.out, rfl⟩

/-- append(out, l...) onto a row of the call's own. -/
theorem app_row {ops : Array Oper} {rest : List Oper} {o : Oper} {a : Act} {Q : Exit → Act → World → Prop} (hgd : o.guard = none) (s x : Operand)
    (ho : o.op = .call { callee := .builtin .append, args := #[s, x], argTypes := #[29, 29] }) (W : World) (B : Nat) (v : Value) (ad : Addr) (n cap : Nat) (xs zs : List Int) (hs : a.eval s = v) (hx : a.eval x = .slice (some ad) n cap) (hn' : zs.length = n)
    (hown : Own B W v xs) (hz : SlP .i64 W (some ad) cap zs) (hn : xs.length + zs.length ≤ 1000000000) (hB : B ≤ W.heap.size)
    (h : ∀ v' w', Own B w' v' (xs ++ zs) → Below B W w' → wpList Try.prog ops Q rest (a.put o.dst v') w') :
    wpList Try.prog ops Q (o :: rest) a W := by
  subst hn'
  exact app_all hgd s x ho W B v ad cap xs zs hs hx hown.1 hown.2 hz hn hB (fun v' w' h1 h2 h3 _ => h v' w' ⟨h1, h2⟩ h3)
theorem sl_take {w : World} {ad : Addr} {cap : Nat} {zs : List Int} (h : SlP .i64 w (some ad) cap zs) (p : Nat) (hp : p ≤ zs.length) : SlP .i64 w (some ad) cap (zs.take p) := by
  refine ⟨by rw [List.length_take]; have := h.1; omega, fun e => (by cases e), fun k hk => ?_⟩
  rw [List.length_take] at hk
  obtain ⟨b, off, e, hb, hc⟩ := h.at_ k (by omega)
  exact ⟨b, off, e, hb, by rw [hc, List.getElem_take]⟩
theorem sl_drop {w : World} {ad : Addr} {cap : Nat} {zs : List Int} (h : SlP .i64 w (some ad) cap zs) (p : Nat) : ∃ ad2, (if cap = p then some ad else some (ad.add p)) = some ad2 ∧ SlP .i64 w (some ad2) (cap - p) (zs.drop p) := by
  have hc := h.1
  by_cases e : cap = p
  · refine ⟨ad, if_pos e, by rw [List.length_drop]; omega, fun e => (by cases e), fun k hk => ?_⟩
    rw [List.length_drop] at hk
    omega
  · refine ⟨ad.add p, if_neg e, by rw [List.length_drop]; omega, fun e => (by cases e), fun k hk => ?_⟩
    rw [List.length_drop] at hk
    obtain ⟨b, off, e, hb, hc⟩ := h.at_ (p + k) (by omega)
    have e' := Option.some.inj e
    subst e'
    refine ⟨b, off + p, ?_, hb, ?_⟩
    · unfold Addr.add
      split <;> simp_all
    · rw [Nat.add_assoc, hc, List.getElem_drop]
set_option maxRecDepth 100000 in
set_option maxHeartbeats 4000000 in
theorem rput_any {w : World} {v : Value} {zs : List Int} (hS : Sn .i64 w v zs) (p : Nat) (hp : p ≤ zs.length) (hn : zs.length ≤ 100000) (n : Int) :
    Calls Try.prog 33 #[v, .int .i64 p, .int .i64 n] w fun e w' => ∃ v', e = .returned v' ∧ Own w.heap.size w' v' (insA zs p n) ∧ Below w.heap.size w w' := by
  obtain ⟨ad, cap, rfl, hS⟩ := hS
  have HS := hid hS
  have hc := hS.1
  have HO : Hid (Own w.heap.size (w.alloc (.cells #[] 3)) (.slice (some ⟨w.heap.size, 0, none⟩) 0 0) []) := ⟨World.ownsRow_made w #[] 0 (Nat.le_refl _) (by unfold maxLen; omega) rfl, trivial⟩
  have hok := hid ((Ok.start w).alloc (o := .cells #[] 3))
  obtain ⟨ad2, he, hd⟩ := sl_drop hS p
  have HE := hid he
  have HD := hid hd
  clear he hd
  generalize hlen : zs.length = len at *
  have HLn := hid hlen
  clear hS hlen
  have HDr : Hid ((zs.drop p).length = len - p) := by show _ = _; rw [List.length_drop, HLn.out]
  have HTk : Hid ((zs.take p).length = p) := by show _ = _; rw [List.length_take, HLn.out]; omega
  go_enter Try.func33, Try.ntmps33
  go_wp2_with (first
    | (at_builtin
       refine app_row rfl (.tmp 9) (.tmp 12) rfl (w.alloc (.cells #[] 3)) w.heap.size (.slice (some ⟨w.heap.size, 0, none⟩) 0 0) ad p cap [] (zs.take p) rfl rfl HTk.out HO.out ((sl_take HS.out p (by rw [HLn.out]; exact hp)).step ((Below.refl _ _).alloc (Nat.le_refl _) _)) (by rw [HTk.out]; simp; omega) (by simp) (fun v1 w1 h1 h2 => ?_)
       have H1 : Hid (Own w.heap.size w1 v1 (zs.take p) ∧ Ok w.heap.size w w1) := ⟨h1, ok_below h2 hok.out⟩
       clear h1 h2 HO hok)
    | (at_builtin
       refine app_i64 rfl (.tmp 14) (.tmp 16) rfl w1 w.heap.size p v1 (ivs .i64 (zs.take p)) n rfl w1.heap.size rfl rfl (by have h := H1.out.1.1; rw [HTk.out] at h; exact h) (by omega) H1.out.2.2 (fun v2 w2 h1 h2 => ?_)
       have H2 : Hid (Own w.heap.size w2 v2 (zs.take p ++ [n]) ∧ Ok w.heap.size w w2) := ⟨⟨by rw [List.length_append, HTk.out, ivs_snoc]; exact h1, own_some h1 (Nat.succ_pos p)⟩, ok_below h2 H1.out.2⟩
       clear h1 h2 H1)
    | (at_builtin
       refine app_row rfl (.tmp 18) (.tmp 21) rfl w2 w.heap.size v2 ad2 (len - p) (cap - p) (zs.take p ++ [n]) (zs.drop p) rfl (by show Value.slice (if cap = p then some ad else some (ad.add p)) (len - p) (cap - p) = _; rw [HE.out]) HDr.out H2.out.1 (HD.out.step H2.out.2.1) (by rw [List.length_append, HTk.out, HDr.out]; simp; omega) H2.out.2.2 (fun v3 w3 h1 h2 => ?_)
       have H3 : Hid (Own w.heap.size w3 v3 (zs.take p ++ [n] ++ zs.drop p) ∧ Ok w.heap.size w w3) := ⟨h1, ok_below h2 H2.out.2⟩
       clear h1 h2 H2))
  all_goals
    go_ret
    refine ⟨_, rfl, ?_, H3.out.2.1⟩
    have h := H3.out.1
    rw [List.append_assoc] at h
    exact h
end Pu
end Go.Proofs.Ytoknfhjclpdihaa
