import Derived.Test.YteimhepmcjdbpaaGreatDoorIp14
import Derived.Test.YteimhepmcjdbpaaGreatDoorIp22
namespace Go.Proofs.YteimhepmcjdbpaaGreatDoor
open Go.RowKit
namespace Ip

/-! What is written is read as it was. -/
theorem hxD_all : ∀ k : Fin 16, hxB (hxD k.1) = true ∧ valR ((hxD k.1).toNat : Int) = (k.1 : Int) := by decide +kernel
theorem hxD_b (k : Nat) (h : k < 16) : hxB (hxD k) = true := (hxD_all ⟨k, h⟩).1
theorem hxD_v (k : Nat) (h : k < 16) : valR ((hxD k).toNat : Int) = (k : Int) := (hxD_all ⟨k, h⟩).2
theorem hxT_mem (n : Nat) (h : n ≤ 65535) (x : UInt8) (hx : x ∈ hxT n) : ∃ k, k < 16 ∧ x = hxD k := by
  unfold hxT at hx
  split at hx
  · simp only [List.mem_cons, List.not_mem_nil, or_false] at hx
    exact ⟨n, by omega, hx⟩
  · split at hx
    · simp only [List.mem_cons, List.not_mem_nil, or_false] at hx
      rcases hx with hx | hx
      · exact ⟨_, by omega, hx⟩
      · exact ⟨_, by omega, hx⟩
    · split at hx
      · simp only [List.mem_cons, List.not_mem_nil, or_false] at hx
        rcases hx with hx | hx | hx
        · exact ⟨_, by omega, hx⟩
        · exact ⟨_, by omega, hx⟩
        · exact ⟨_, by omega, hx⟩
      · simp only [List.mem_cons, List.not_mem_nil, or_false] at hx
        rcases hx with hx | hx | hx | hx
        · exact ⟨_, by omega, hx⟩
        · exact ⟨_, by omega, hx⟩
        · exact ⟨_, by omega, hx⟩
        · exact ⟨_, by omega, hx⟩
theorem hxT_hex (n : Nat) (h : n ≤ 65535) : (hxT n).all hxB = true := by
  refine List.all_eq_true.2 fun x hx => ?_
  obtain ⟨k, hk, rfl⟩ := hxT_mem n h x hx
  exact hxD_b k hk
theorem hxT_no (n : Nat) (h : n ≤ 65535) (c : UInt8) (hc : hxB c = false) : c ∉ hxT n := fun hm => by
  have := List.all_eq_true.1 (hxT_hex n h) c hm
  rw [hc] at this; cases this
theorem hxT_ne (n : Nat) : hxT n ≠ [] := by
  unfold hxT; repeat' split
  all_goals simp
theorem hxT_le (n : Nat) : (hxT n).length ≤ 4 := by
  unfold hxT; repeat' split
  all_goals simp
theorem hexI_hxT (n : Nat) (h : n ≤ 65535) : hexI (hxT n) = n := by
  unfold hxT
  split
  · show 0 * 16 + valR ((hxD n).toNat : Int) = _
    rw [hxD_v _ (by omega)]; omega
  · split
    · show (0 * 16 + valR ((hxD (n / 16)).toNat : Int)) * 16 + valR ((hxD (n % 16)).toNat : Int) = _
      rw [hxD_v _ (by omega), hxD_v _ (by omega)]; omega
    · split
      · show ((0 * 16 + valR ((hxD (n / 256)).toNat : Int)) * 16 + valR ((hxD (n / 16 % 16)).toNat : Int)) * 16 + valR ((hxD (n % 16)).toNat : Int) = _
        rw [hxD_v _ (by omega), hxD_v _ (by omega), hxD_v _ (by omega)]; omega
      · show (((0 * 16 + valR ((hxD (n / 4096)).toNat : Int)) * 16 + valR ((hxD (n / 256 % 16)).toNat : Int)) * 16 + valR ((hxD (n / 16 % 16)).toNat : Int)) * 16 + valR ((hxD (n % 16)).toNat : Int) = _
        rw [hxD_v _ (by omega), hxD_v _ (by omega), hxD_v _ (by omega), hxD_v _ (by omega)]; omega
theorem wo_hx (x : Int) (h0 : 0 ≤ x) (h1 : x ≤ 65535) : woL (hxI x) = x := by
  obtain ⟨n, rfl⟩ := Int.eq_ofNat_of_zero_le h0
  show woL (hxT n) = n
  unfold woL
  rw [if_pos ⟨hxT_ne n, hxT_le n, hxT_hex n (by omega)⟩]
  exact hexI_hxT n (by omega)
theorem hxI_no58 (x : Int) (h0 : 0 ≤ x) (h1 : x ≤ 65535) : (58 : UInt8) ∉ hxI x := hxT_no _ (by omega) 58 (by decide)

theorem paL_app (c : UInt8) : ∀ d r : List UInt8, c ∉ d → paL c (d ++ c :: r) = d :: paL c r := by
  intro d
  induction d with
  | nil => intro r _; show paL c (c :: r) = _; rw [paL, if_pos rfl]
  | cons a d ih =>
    intro r h
    rw [List.mem_cons, not_or] at h
    show paL c (a :: (d ++ c :: r)) = _
    rw [paL, if_neg (fun e => h.1 e.symm), ih r h.2]; rfl

theorem wrT_cons (x y : Int) (t : List Int) : wrT (x :: y :: t) = hxI x ++ 58 :: wrT (y :: t) := by simp [wrT]
def In6 (ws : List Int) : Prop := ∀ x ∈ ws, 0 ≤ x ∧ x ≤ 65535
theorem In6.tail {x : Int} {ws : List Int} (h : In6 (x :: ws)) : In6 ws := fun y hy => h y (List.mem_cons_of_mem _ hy)
theorem pa_wr : ∀ (t : List Int) (x : Int), In6 (x :: t) → paL 58 (wrT (x :: t)) = (x :: t).map hxI := by
  intro t
  induction t with
  | nil =>
    intro x h
    obtain ⟨h0, h1⟩ := h x List.mem_cons_self
    rw [wrT_one, pa_one 58 _ (hxI_no58 x h0 h1)]; rfl
  | cons y t ih =>
    intro x h
    obtain ⟨h0, h1⟩ := h x List.mem_cons_self
    rw [wrT_cons, paL_app 58 _ _ (hxI_no58 x h0 h1), ih y h.tail]; rfl
theorem reP_hx (q : Bool) : ∀ ws : List Int, In6 ws → reP q (ws.map hxI) = some ws := by
  intro ws
  induction ws with
  | nil => intro _; rfl
  | cons x t ih =>
    intro h
    obtain ⟨h0, h1⟩ := h x List.mem_cons_self
    have e := wo_hx x h0 h1
    rw [List.map_cons, reP, e, if_pos h0, ih h.tail]
theorem wrT_ne (x : Int) (t : List Int) : wrT (x :: t) ≠ [] := by
  unfold wrT
  intro h
  have := List.append_eq_nil_iff.1 h
  exact hxT_ne _ this.1
theorem reL_wr (q : Bool) (ws : List Int) (h : In6 ws) (h8 : ws.length ≤ 8) : reL q (wrT ws) = some ws := by
  cases ws with
  | nil => rfl
  | cons x t =>
    unfold reL
    rw [if_neg (wrT_ne x t), pa_wr t x h]
    unfold reS
    rw [reP_hx q _ h]
    show (if ([] : List Int).length + (x :: t).length ≤ 8 then some ([] ++ x :: t) else none) = _
    rw [if_pos (by simpa using h8)]; rfl

theorem cu_word : ∀ d t : List UInt8, (58 : UInt8) ∉ d → cuG [58, 58] (d ++ t) = (d ++ (cuG [58, 58] t).1, (cuG [58, 58] t).2) := by
  intro d
  induction d with
  | nil => intro t _; rfl
  | cons a d ih =>
    intro t h
    rw [List.mem_cons, not_or] at h
    show cuG [58, 58] (a :: (d ++ t)) = _
    have : ¬ ([58, 58] : List UInt8).isPrefixOf (a :: (d ++ t)) = true := by
      simp only [List.isPrefixOf, Bool.and_eq_true, beq_iff_eq]
      exact fun e => h.1 e.1
    rw [cuG, if_neg this, ih t h.2]; rfl
theorem cu_colon (x : UInt8) (t : List UInt8) (h : x ≠ 58) : cuG [58, 58] (58 :: x :: t) = (58 :: (cuG [58, 58] (x :: t)).1, (cuG [58, 58] (x :: t)).2) := by
  have : ¬ ([58, 58] : List UInt8).isPrefixOf (58 :: x :: t) = true := by
    simp only [List.isPrefixOf, Bool.and_eq_true, beq_iff_eq, Bool.and_true]
    exact fun e => h e.2.symm
  rw [cuG, if_neg this]
theorem cu_wr (T : List UInt8) : ∀ (t : List Int) (x : Int), In6 (x :: t) → cuG [58, 58] (wrT (x :: t) ++ T) = (wrT (x :: t) ++ (cuG [58, 58] T).1, (cuG [58, 58] T).2) := by
  intro t
  induction t with
  | nil =>
    intro x h
    obtain ⟨h0, h1⟩ := h x List.mem_cons_self
    rw [wrT_one, cu_word _ _ (hxI_no58 x h0 h1)]
  | cons y t ih =>
    intro x h
    obtain ⟨h0, h1⟩ := h x List.mem_cons_self
    obtain ⟨g0, g1⟩ := h y (List.mem_cons_of_mem _ List.mem_cons_self)
    obtain ⟨a, l, e⟩ : ∃ a l, wrT (y :: t) = a :: l := by
      cases hw : wrT (y :: t) with
      | nil => exact absurd hw (wrT_ne y t)
      | cons a l => exact ⟨a, l, rfl⟩
    have ha : a ≠ 58 := by
      intro h58
      have h3 : wrT (y :: t) = hxI y ++ t.flatMap fun y => 58 :: hxI y := rfl
      rw [e] at h3
      cases hy : hxI y with
      | nil => exact hxT_ne _ hy
      | cons b m =>
        rw [hy] at h3
        injection h3 with h4 _
        exact hxI_no58 y g0 g1 (by rw [hy, ← h58, h4]; exact List.mem_cons_self)
    have h5 := ih y h.tail
    rw [wrT_cons, List.append_assoc, cu_word _ _ (hxI_no58 x h0 h1)]
    rw [e] at h5 ⊢
    rw [show (58 :: a :: l) ++ T = 58 :: a :: (l ++ T) from rfl, cu_colon a _ ha, show a :: (l ++ T) = (a :: l) ++ T from rfl, h5]
    simp
theorem cu_wr_any (T : List UInt8) (ws : List Int) (h : In6 ws) : cuG [58, 58] (wrT ws ++ T) = (wrT ws ++ (cuG [58, 58] T).1, (cuG [58, 58] T).2) := by
  cases ws with
  | nil => rfl
  | cons x t => exact cu_wr T t x h

theorem v6_tx (ws : List Int) (h8 : ws.length = 8) (h : In6 ws) : v6L (tx6 ws) = (ws, true) := by
  obtain ⟨_, _, q, r, e, hq⟩ := lg_inv ws
  have hb := (lgT_bd ws).2.2
  unfold tx6
  generalize (lgT ws).2.2.2 = z at *
  generalize (lgT ws).2.2.1 = a at *
  by_cases hz : z < 2
  · rw [if_pos hz]
    have hc := cu_wr_any [] ws h
    rw [List.append_nil] at hc
    have hc2 : (cuG [58, 58] (wrT ws)).2.2 = false := by rw [hc]; rfl
    unfold v6L
    rw [if_pos hc2, reL_wr true ws h (by omega)]
    show (if ws.length = 8 then (ws, true) else (z8, false)) = _
    rw [if_pos h8]
  · rw [if_neg hz]
    have e1 : ws.take a = q := by rw [e, List.append_assoc, ← hq, List.take_left]
    have e2 : ws.drop (a + z) = r := by
      rw [e, ← hq]
      have : q.length + z = (q ++ List.replicate z (0 : Int)).length := by simp
      rw [this, List.drop_left]
    have hl : ws.length = q.length + z + r.length := by rw [e]; simp; omega
    have hqi : In6 q := fun x hx => h x (by rw [e]; simp [hx])
    have hri : In6 r := fun x hx => h x (by rw [e]; simp [hx])
    rw [e1, e2]
    have hc : cuG [58, 58] (wrT q ++ [58, 58] ++ wrT r) = (wrT q, wrT r, true) := by
      rw [List.append_assoc, cu_wr_any _ q hqi]
      show (wrT q ++ [], wrT r, true) = _
      rw [List.append_nil]
    unfold v6L
    rw [hc]
    show (match reL false (wrT q), reL true (wrT r) with | some hs, some ts => if hs.length + ts.length < 8 then (hs ++ List.replicate (8 - hs.length - ts.length) 0 ++ ts, true) else (z8, false) | _, _ => (z8, false)) = _
    rw [reL_wr false q hqi (by omega), reL_wr true r hri (by omega)]
    show (if q.length + r.length < 8 then (q ++ List.replicate (8 - q.length - r.length) 0 ++ r, true) else (z8, false)) = _
    have h3 : 8 - q.length - r.length = z := by omega
    rw [if_pos (by omega), h3, ← e]

/-- Four numbers as they are written. -/
def tx4 (a b c d : Int) : List UInt8 := dcT a.toNat ++ 46 :: (dcT b.toNat ++ 46 :: (dcT c.toNat ++ 46 :: dcT d.toNat))
theorem dc_no_all : ((List.range 256).all fun k => decide ((46 : UInt8) ∉ dcT k)) = true := by decide +kernel
theorem dc_no (k : Nat) (h : k < 256) : (46 : UInt8) ∉ dcT k := by
  have := List.all_eq_true.1 dc_no_all k (by simpa using h)
  simpa using this
theorem v4_tx (a b c d : Int) (a0 : 0 ≤ a) (a1 : a ≤ 255) (b0 : 0 ≤ b) (b1 : b ≤ 255) (c0 : 0 ≤ c) (c1 : c ≤ 255) (d0 : 0 ≤ d) (d1 : d ≤ 255) : v4L (tx4 a b c d) = ([a, b, c, d], true) := by
  obtain ⟨a, rfl⟩ := Int.eq_ofNat_of_zero_le a0
  obtain ⟨b, rfl⟩ := Int.eq_ofNat_of_zero_le b0
  obtain ⟨c, rfl⟩ := Int.eq_ofNat_of_zero_le c0
  obtain ⟨d, rfl⟩ := Int.eq_ofNat_of_zero_le d0
  have e : paL 46 (tx4 a b c d) = [dcT a, dcT b, dcT c, dcT d] := by
    show paL 46 (dcT a ++ 46 :: (dcT b ++ 46 :: (dcT c ++ 46 :: dcT d))) = _
    rw [paL_app 46 _ _ (dc_no a (by omega)), paL_app 46 _ _ (dc_no b (by omega)), paL_app 46 _ _ (dc_no c (by omega)), pa_one 46 _ (dc_no d (by omega))]
  unfold v4L
  rw [e]
  show v4R [nuL (dcT a), nuL (dcT b), nuL (dcT c), nuL (dcT d)] = _
  rw [nu_dc a (by omega), nu_dc b (by omega), nu_dc c (by omega), nu_dc d (by omega)]
  exact v4R_yes _ _ _ _ (by omega) (by omega) (by omega) (by omega)

/-! The longest run of noughts, by trying. -/
def zrL (ws : List Int) (at_ n : Nat) : Bool := ((ws.drop at_).take n).all fun x => x == 0
def nz (x : Int) : Int := if x = 0 then 0 else 1
theorem lg_nz : ∀ (ws : List Int) st, (ws.map nz).foldl lgS st = ws.foldl lgS st := by
  intro ws
  induction ws with
  | nil => intro st; rfl
  | cons x t ih =>
    intro st
    rw [List.map_cons, List.foldl_cons, List.foldl_cons, ih]
    have : lgS st (nz x) = lgS st x := by
      unfold lgS nz
      by_cases h : x = 0
      · rw [h]; rfl
      · rw [if_neg h, if_pos h, if_pos (by decide)]
    rw [this]
theorem zr_nz (ws : List Int) (a n : Nat) : zrL (ws.map nz) a n = zrL ws a n := by
  unfold zrL
  rw [← List.map_drop, ← List.map_take, List.all_map]
  congr 1
  funext x
  show (nz x == 0) = (x == 0)
  unfold nz
  by_cases h : x = 0
  · rw [h]; rfl
  · rw [if_neg h]; symm; rw [beq_eq_false_iff_ne.2 h]; rfl
def allZ : Nat → (List Int → Bool) → Bool
  | 0, f => f []
  | n + 1, f => allZ n (fun l => f (0 :: l)) && allZ n (fun l => f (1 :: l))
theorem allZ_is : ∀ (n : Nat) (f : List Int → Bool), allZ n f = true → ∀ l : List Int, l.length = n → (∀ x ∈ l, x = 0 ∨ x = 1) → f l = true := by
  intro n
  induction n with
  | zero => intro f h l hl _; rw [List.eq_nil_of_length_eq_zero hl]; exact h
  | succ n ih =>
    intro f h l hl hx
    simp only [allZ, Bool.and_eq_true] at h
    cases l with
    | nil => cases hl
    | cons x t =>
      have ht : t.length = n := by simpa using hl
      rcases hx x List.mem_cons_self with rfl | rfl
      · exact ih _ h.1 t ht (fun y hy => hx y (List.mem_cons_of_mem _ hy))
      · exact ih _ h.2 t ht (fun y hy => hx y (List.mem_cons_of_mem _ hy))
def okZ (ws : List Int) : Bool :=
  if (lgT ws).2.2.2 < 2 then (List.range 9).all fun n => n < 2 || (List.range 9).all fun a => decide (8 < a + n) || !zrL ws a n
  else zrL ws (lgT ws).2.2.1 (lgT ws).2.2.2 && ((List.range (lgT ws).2.2.1).all fun a => !zrL ws a (lgT ws).2.2.2) && (List.range 9).all fun n => decide (n ≤ (lgT ws).2.2.2) || (List.range 9).all fun a => decide (8 < a + n) || !zrL ws a n
theorem okZ_all : allZ 8 okZ = true := by decide +kernel
theorem okZ_any (ws : List Int) (h8 : ws.length = 8) : okZ ws = true := by
  have h := allZ_is 8 okZ okZ_all (ws.map nz) (by rw [List.length_map]; exact h8) (fun x hx => by
    obtain ⟨y, _, rfl⟩ := List.mem_map.1 hx
    unfold nz
    by_cases h : y = 0
    · exact .inl (if_pos h)
    · exact .inr (if_neg h))
  have e : lgT (ws.map nz) = lgT ws := lg_nz ws _
  unfold okZ at h ⊢
  rw [e] at h
  simp only [zr_nz] at h
  exact h
theorem rng_all {n : Nat} {f : Nat → Bool} (h : (List.range n).all f = true) (k : Nat) (hk : k < n) : f k = true := List.all_eq_true.1 h k (by simpa using hk)
theorem tx_some (ws : List Int) (h8 : ws.length = 8) (n a : Nat) (hn : 2 ≤ n) (h1 : a + n ≤ 8) (hz : zrL ws a n = true) (hf : ∀ b, b < a → zrL ws b n = false) (hm : ∀ m, n < m → ∀ b, b + m ≤ 8 → zrL ws b m = false) : tx6 ws = wrT (ws.take a) ++ [58, 58] ++ wrT (ws.drop (a + n)) := by
  have h := okZ_any ws h8
  have hb := (lgT_bd ws).2.2
  unfold okZ at h
  unfold tx6
  generalize (lgT ws).2.2.2 = z at *
  generalize (lgT ws).2.2.1 = c at *
  by_cases h2 : z < 2
  · rw [if_pos h2] at h
    have h3 := rng_all h n (by omega)
    rw [Bool.or_eq_true] at h3
    rcases h3 with h3 | h3
    · have := of_decide_eq_true h3; omega
    · have h4 := rng_all h3 a (by omega)
      rw [hz, decide_eq_false (by omega)] at h4; cases h4
  · rw [if_neg h2] at h ⊢
    rw [Bool.and_eq_true, Bool.and_eq_true] at h
    obtain ⟨⟨h3, h4⟩, h5⟩ := h
    have hzn : z = n := by
      rcases Nat.lt_trichotomy z n with g | g | g
      · have h6 := rng_all h5 n (by omega)
        rw [decide_eq_false (by omega), Bool.false_or] at h6
        have h7 := rng_all h6 a (by omega)
        rw [hz, decide_eq_false (by omega)] at h7; cases h7
      · exact g
      · have := hm z g c (by omega)
        rw [h3] at this; cases this
    subst hzn
    have hca : c = a := by
      rcases Nat.lt_trichotomy c a with g | g | g
      · have := hf c g
        rw [h3] at this; cases this
      · exact g
      · have := rng_all h4 a g
        rw [hz] at this; cases this
    rw [hca]
theorem tx_none (ws : List Int) (h8 : ws.length = 8) (hm : ∀ m, 2 ≤ m → ∀ b, b + m ≤ 8 → zrL ws b m = false) : tx6 ws = wrT ws := by
  have h := okZ_any ws h8
  have hb := (lgT_bd ws).2.2
  unfold okZ at h
  unfold tx6
  generalize (lgT ws).2.2.2 = z at *
  generalize (lgT ws).2.2.1 = c at *
  by_cases h2 : z < 2
  · rw [if_pos h2]
  · rw [if_neg h2, Bool.and_eq_true, Bool.and_eq_true] at h
    have := hm z (by omega) c (by omega)
    rw [h.1.1] at this; cases this
end Ip
end Go.Proofs.YteimhepmcjdbpaaGreatDoor
