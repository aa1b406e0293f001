import Derived.Test.YtoknfhjclpdihaaPu28
namespace Go.Proofs.Ytoknfhjclpdihaa
namespace Pu
open Go.RowKit Od

theorem vd_ck : (List.range 36).all (fun n => vlP (dgP n) == n && (decide (97 ≤ dgP n) || decide (dgP n ≤ 57)) && decide (48 ≤ dgP n) && decide (dgP n < 123)) = true := by kernel_rfl
theorem vd {v : Int} (h0 : 0 ≤ v) (h1 : v < 36) : vlP (dgP v) = v ∧ (97 ≤ dgP v ∨ dgP v ≤ 57) ∧ 48 ≤ dgP v ∧ dgP v < 123 := by
  obtain ⟨n, rfl⟩ := Int.eq_ofNat_of_zero_le h0
  have h := List.all_eq_true.1 vd_ck n (List.mem_range.2 (by omega))
  rw [Bool.and_eq_true, Bool.and_eq_true, Bool.and_eq_true, Bool.or_eq_true, beq_iff_eq, decide_eq_true_eq, decide_eq_true_eq, decide_eq_true_eq, decide_eq_true_eq] at h
  exact ⟨h.1.1.1, h.1.1.2, h.1.2, h.2⟩

/-- What a delta's digits are read as. -/
theorem rd_back (bi : Int) : ∀ (n : Nat) (δ pl c k : Int) (D : List Int), 0 ≤ δ → δ.toNat < n → 0 ≤ pl → 1 ≤ c → 35 * (δ * c) ≤ 2147483647 → pl + δ * c ≤ 2147483647 → rdD bi (wrF n δ k bi ++ D) pl c k = .inr (pl + δ * c, D)
  | 0, _, _, _, _, _, _, h, _, _, _, _ => by omega
  | n + 1, δ, pl, c, k, D, h0, h1, hp, hc, hM, hP => by
    have ht := th_bd k bi
    simp only [wrF]
    by_cases hd : δ < thP k bi
    · rw [if_pos hd]
      have hv := (vd h0 (by omega)).1
      show rdD bi (dgP δ :: D) pl c k = _
      simp only [rdD]
      rw [hv, if_neg (by omega), if_neg (Int.not_lt.2 (Int.le_ediv_of_mul_le (by omega) (by omega))), if_pos hd]
    · rw [if_neg hd]
      have hq := q_lt δ k bi hd
      show rdD bi (dgP (thP k bi + (δ - thP k bi) % (36 - thP k bi)) :: (wrF n ((δ - thP k bi) / (36 - thP k bi)) (k + 36) bi ++ D)) pl c k = _
      simp only [rdD]
      have ih := fun pl' c' => rd_back bi n ((δ - thP k bi) / (36 - thP k bi)) pl' c' (k + 36) D hq.1 (by omega)
      generalize thP k bi = t at *
      have hr0 := Int.emod_nonneg (δ - t) (b := 36 - t) (by omega)
      have hr1 := Int.emod_lt_of_pos (δ - t) (b := 36 - t) (by omega)
      have hdm := Int.mul_ediv_add_emod (δ - t) (36 - t)
      generalize (δ - t) / (36 - t) = q at *
      generalize (δ - t) % (36 - t) = r at *
      have hv := (vd (v := t + r) (by omega) (by omega)).1
      have e1 : (t + r) + (36 - t) * q = δ := by omega
      have e2 : δ * c = (t + r) * c + q * (c * (36 - t)) := by
        rw [← e1, Int.add_mul, Int.mul_comm (36 - t) q, Int.mul_assoc, Int.mul_comm (36 - t) c]
      have e3 : 0 ≤ q * (c * (36 - t)) := Int.mul_nonneg hq.1 (Int.mul_nonneg (by omega) (by omega))
      have e4 : 0 ≤ (t + r) * c := Int.mul_nonneg (by omega) (by omega)
      have e5 : 1 * c ≤ δ * c := Int.mul_le_mul_of_nonneg_right (by omega) (by omega)
      have e6 : c * (36 - t) ≤ c * 35 := Int.mul_le_mul_of_nonneg_left (by omega) (by omega)
      have e7 : 1 * 1 ≤ c * (36 - t) := Int.mul_le_mul hc (by omega) (by omega) (by omega)
      rw [hv, if_neg (by omega), if_neg (Int.not_lt.2 (Int.le_ediv_of_mul_le (by omega) (by omega))), if_neg (by omega), if_neg (Int.not_lt.2 (Int.le_ediv_of_mul_le (by omega) (by omega))),
        ih _ _ (by omega) (by omega) (by omega) (by omega), e2]
      rw [Int.add_assoc]
theorem wr_back (δ pl bi : Int) (D : List Int) (h0 : 0 ≤ δ) (hp : 0 ≤ pl) (h1 : δ ≤ 50000000) (h2 : pl ≤ 1000) : rdD bi (wrP δ bi ++ D) pl 1 36 = .inr (pl + δ, D) := by
  have h := rd_back bi (δ.toNat + 1) δ pl 1 36 D h0 (by omega) hp (by omega) (by omega) (by omega)
  rw [Int.mul_one] at h
  exact h

/-- The entries that are written. -/
def entL (zs : List Int) : ES → List Int → List Ent
  | _, [] => []
  | s, p :: rest => (kyP zs p, ps s.a p.toNat) :: entL zs (s.step zs p) rest
/-- All digits. -/
def delL (zs : List Int) : ES → List Int → List Int
  | _, [] => []
  | s, p :: rest => wrP (s.d zs p) s.bias ++ delL zs (s.step zs p) rest
theorem out_del (zs : List Int) : ∀ (rest : List Int) (s : ES), (rest.foldl (ES.step zs) s).out = s.out ++ delL zs s rest
  | [], s => by simp [delL]
  | p :: rest, s => by
    show (rest.foldl (ES.step zs) (s.step zs p)).out = _
    rw [out_del zs rest]
    show (s.out ++ wrP (s.d zs p) s.bias) ++ _ = _
    rw [List.append_assoc]; rfl
theorem ent_len (zs : List Int) : ∀ (rest : List Int) (s : ES), (entL zs s rest).length = rest.length
  | [], s => rfl
  | p :: rest, s => by
    show (entL zs (s.step zs p) rest).length + 1 = _
    rw [ent_len zs rest]; rfl
theorem st_end (zs : List Int) : ∀ (rest : List Int) (s : ES), (rest.foldl (ES.step zs) s).st = s.st + rest.length
  | [], s => rfl
  | p :: rest, s => by
    show (rest.foldl (ES.step zs) (s.step zs p)).st = _
    rw [st_end zs rest]
    show s.st + 1 + _ = _
    rw [List.length_cons]; omega
theorem ok_end {zs : List Int} (hl : zs.length ≤ 127) : ∀ (rest : List Int) (s : ES), s.Ok zs rest → (rest.foldl (ES.step zs) s).Ok zs []
  | [], _, h => h
  | p :: rest, s, h => ok_end hl rest (s.step zs p) (h.next hl)
/-- Few enough, or none great: so no delta runs over. -/
def Sm (zs : List Int) : Prop := zs.length ≤ 40 ∨ (zs.length ≤ 59 ∧ ∀ z ∈ zs, z ≤ 800000)
theorem Sm.le {zs : List Int} (h : Sm zs) : zs.length ≤ 59 := by
  rcases h with h | h
  · omega
  · exact h.1
/-- A delta of few code points. -/
theorem ES.Ok.small {zs : List Int} {s : ES} {p : Int} {rest : List Int} (h : s.Ok zs (p :: rest)) (hs : Sm zs) : s.d zs p ≤ 50000000 ∧ s.st ≤ 59 := by
  have hl := hs.le
  obtain ⟨g1, g2, g3, g4, g5, g6, g7⟩ := h.head (by omega)
  obtain ⟨q, rfl, hq, ha, h1, h2, h3⟩ := h.rest p (by simp)
  have hb := ps_bd s.a h.bd zs.length
  rw [h.sum] at hb
  have hst : s.st ≤ 59 := by omega
  have hn := h.n0
  have hp0 := h.p0
  refine ⟨?_, hst⟩
  unfold ES.d
  rcases hs with hs | ⟨hs, hz⟩
  · have e2 : (kyP zs (q : Int) - s.n) * ((s.st : Int) + 1) ≤ 1114111 * 41 := Int.mul_le_mul (by omega) (by omega) (by omega) (by omega)
    omega
  · have hk : kyP zs (q : Int) ≤ 800000 := by
      rw [ky_cd]
      unfold cd
      rw [List.getD_eq_getElem?_getD, List.getElem?_eq_getElem hq]
      exact hz _ (List.getElem_mem hq)
    have e2 : (kyP zs (q : Int) - s.n) * ((s.st : Int) + 1) ≤ 800000 * 60 := Int.mul_le_mul (by omega) (by omega) (by omega) (by omega)
    omega
theorem wrP_ne (d b : Int) : 1 ≤ (wrP d b).length := by
  unfold wrP
  simp only [wrF]
  split <;> simp
/-- The digits are read back. -/
theorem rdS_back {zs : List Int} (hs : Sm zs) : ∀ (rest : List Int) (s : ES) (d : DS) (f : Nat), s.Ok zs rest → d.n = s.n → d.place = s.place → d.bias = s.bias → d.st = s.st → d.out.length = s.i → (delL zs s rest).length ≤ f → rdS f d (delL zs s rest) = .inr (d.out ++ entL zs s rest)
  | [], s, d, f, _, _, _, _, _, _, _ => by
    show rdS f d [] = .inr (d.out ++ [])
    rw [List.append_nil]
    cases f <;> rfl
  | p :: rest, s, d, f, h, e1, e2, e3, e4, e5, hf => by
    have hl := hs.le
    obtain ⟨g1, g2, g3, g4, g5, g6, g7⟩ := h.head (by omega)
    obtain ⟨k1, k2⟩ := h.small hs
    obtain ⟨q, hpq, hq, ha, h1, h2, h3⟩ := h.rest p (by simp)
    have hn := h.n0
    have hp0 := h.p0
    have hp1 := h.p1
    have ih := fun d' f' => rdS_back hs rest (s.step zs p) d' f' (h.next (by omega))
    have hwl := wrP_ne (s.d zs p) s.bias
    have hdl : delL zs s (p :: rest) = wrP (s.d zs p) s.bias ++ delL zs (s.step zs p) rest := rfl
    rw [hdl, List.length_append] at hf
    rw [hdl]
    obtain ⟨f, rfl⟩ : ∃ g, f = g + 1 := ⟨f - 1, by omega⟩
    rw [rdS_step f d _ (by intro e; have := congrArg List.length e; rw [List.length_append] at this; simp at this; rw [this.1] at hwl; simp at hwl), e2, e3, wr_back _ _ _ _ g1 hp0 k1 (by omega)]
    simp only
    have hd : s.place + s.d zs p = ps s.a p.toNat + (kyP zs p - s.n) * ((s.st : Int) + 1) := by unfold ES.d; omega
    have hdv : (s.place + s.d zs p) / ((s.st : Int) + 1) = kyP zs p - s.n := by
      rw [hd, Int.add_mul_ediv_right _ _ (by omega), Int.ediv_eq_zero_of_lt g6 (by omega), Int.zero_add]
    have hmd : (s.place + s.d zs p) % ((s.st : Int) + 1) = ps s.a p.toNat := by
      rw [hd, Int.add_mul_emod_self_right, Int.emod_eq_of_lt g6 (by omega)]
    rw [e1, e4, hdv, hmd, if_neg (by omega), if_neg (by omega)]
    have e6 : s.n + (kyP zs p - s.n) = kyP zs p := by omega
    have e7 : s.place + s.d zs p - s.place = s.d zs p := by omega
    rw [e6, e7, ih _ f rfl rfl (by show _ = ((adP (s.d zs p).toNat (s.st + 1) (s.i == 0) : Nat) : Int); rw [e5]) rfl (by show (d.out ++ [_]).length = s.i + 1; rw [List.length_append, e5]; rfl) (by omega)]
    show Sum.inr ((d.out ++ [(kyP zs p, ps s.a p.toNat)]) ++ _) = _
    rw [List.append_assoc]; rfl

/-- Those that are marked. -/
def sel : List Int → List Int → List Int
  | z :: zs, x :: a => if x = 0 then sel zs a else z :: sel zs a
  | _, _ => []
theorem sel_sub : ∀ (zs a : List Int), (sel zs a).Sublist zs
  | [], _ => by simp [sel]
  | z :: zs, [] => by simp [sel]
  | z :: zs, x :: a => by
    rw [sel]
    split
    · exact (sel_sub zs a).cons _
    · exact (sel_sub zs a).cons_cons _
theorem sel_len : ∀ (zs a : List Int), a.length = zs.length → (∀ x ∈ a, 0 ≤ x ∧ x ≤ 1) → ((sel zs a).length : Int) = ps a zs.length
  | [], [], _, _ => by simp [sel, ps]
  | [], _ :: _, h, _ => by simp at h
  | _ :: _, [], h, _ => by simp at h
  | z :: zs, x :: a, h, hb => by
    have ih := sel_len zs a (by simpa using h) (fun y hy => hb y (by simp [hy]))
    have hx := hb x (by simp)
    rw [sel, List.length_cons, ps_cons, ← ih]
    split
    · omega
    · rw [List.length_cons]; omega
theorem sel_low : ∀ (zs : List Int), sel zs (lowA zs) = lowL zs
  | [] => rfl
  | z :: zs => by
    have ih := sel_low zs
    show sel (z :: zs) ((if z < 128 then 1 else 0) :: lowA zs) = (z :: zs).filter _
    rw [sel, List.filter_cons, ih]
    by_cases h : z < 128
    · rw [if_pos h, if_neg (by omega), if_pos (by rw [decide_eq_true_eq]; exact h)]; rfl
    · rw [if_neg h, if_pos rfl, if_neg (by rw [decide_eq_true_eq]; exact h)]; rfl
theorem sel_ins : ∀ (zs a : List Int) (q : Nat), a.length = zs.length → (∀ x ∈ a, 0 ≤ x ∧ x ≤ 1) → q < zs.length → a.getD q 0 = 0 → insA (sel zs a) (ps a q).toNat (zs.getD q 0) = sel zs (a.set q 1)
  | [], _, _, _, _, h, _ => by simp at h
  | _ :: _, [], _, h, _, _, _ => by simp at h
  | z :: zs, x :: a, 0, h, hb, hq, h0 => by
    have h0 : x = 0 := h0
    subst h0
    rw [ps_0]
    show insA (sel (z :: zs) (0 :: a)) 0 z = sel (z :: zs) (1 :: a)
    rw [sel, sel, if_pos rfl, if_neg (by omega)]
    rfl
  | z :: zs, x :: a, q + 1, h, hb, hq, h0 => by
    have hb' : ∀ y ∈ a, 0 ≤ y ∧ y ≤ 1 := fun y hy => hb y (by simp [hy])
    have ih := sel_ins zs a q (by simpa using h) hb' (by simpa using hq) h0
    have hx := hb x (by simp)
    have hp := (ps_bd a hb' q).1
    rw [ps_cons]
    show insA (sel (z :: zs) (x :: a)) _ (zs.getD q 0) = sel (z :: zs) (x :: a.set q 1)
    rw [sel, sel]
    by_cases hx0 : x = 0
    · rw [if_pos hx0, if_pos hx0, hx0, Int.zero_add, ih]
    · rw [if_neg hx0, if_neg hx0, show (x + ps a q).toNat = (ps a q).toNat + 1 by omega]
      show z :: insA (sel zs a) (ps a q).toNat (zs.getD q 0) = _
      rw [ih]
theorem put_back {zs : List Int} (hl : zs.length ≤ 127) : ∀ (rest : List Int) (s : ES), s.Ok zs rest → putL (sel zs s.a) (entL zs s rest) = sel zs (rest.foldl (ES.step zs) s).a
  | [], _, _ => rfl
  | p :: rest, s, h => by
    obtain ⟨q, rfl, hq, ha, h1, h2, h3⟩ := h.rest p (by simp)
    have ih := put_back hl rest (s.step zs (q : Int)) (h.next hl)
    show putL (insA (sel zs s.a) (ps s.a (q : Int).toNat).toNat (kyP zs (q : Int))) (entL zs (s.step zs (q : Int)) rest) = sel zs (rest.foldl (ES.step zs) (s.step zs (q : Int))).a
    rw [← ih, ky_cd, Int.toNat_natCast]
    unfold cd
    rw [sel_ins zs s.a q h.len h.bd hq ha]
    rfl
theorem put_all {zs : List Int} (hl : zs.length ≤ 127) (hz : ∀ z ∈ zs, 0 ≤ z ∧ z ≤ 1114111) : putL (lowL zs) (entL zs (ES.start zs) (ordL zs)) = zs := by
  have h := put_back hl (ordL zs) (ES.start zs) (ES.start_ok zs hz)
  have e1 : sel zs (ES.start zs).a = lowL zs := sel_low zs
  rw [e1] at h
  rw [h]
  have hk := ok_end hl (ordL zs) (ES.start zs) (ES.start_ok zs hz)
  have hs := hk.sum
  rw [st_end] at hs
  have hc := (RI.start zs hz).cnt
  have hn := sel_len zs _ hk.len hk.bd
  refine (sel_sub zs _).eq_of_length ?_
  omega
theorem wrF_mem : ∀ (n : Nat) (d k b : Int), 0 ≤ d → ∀ x ∈ wrF n d k b, 48 ≤ x ∧ x < 123
  | 0, _, _, _, _, x, h => by simp [wrF] at h
  | n + 1, d, k, b, h0, x, h => by
    have ht := th_bd k b
    simp only [wrF] at h
    split at h
    · simp at h
      subst h
      exact (vd h0 (by omega)).2.2
    · rename_i hd
      have hq := q_lt d k b hd
      have hr0 := Int.emod_nonneg (d - thP k b) (b := 36 - thP k b) (by omega)
      have hr1 := Int.emod_lt_of_pos (d - thP k b) (b := 36 - thP k b) (by omega)
      rcases List.mem_cons.1 h with h | h
      · subst h
        exact (vd (by omega) (by omega)).2.2
      · exact wrF_mem n _ _ _ hq.1 x h
theorem del_mem {zs : List Int} (hl : zs.length ≤ 127) : ∀ (rest : List Int) (s : ES), s.Ok zs rest → ∀ x ∈ delL zs s rest, 48 ≤ x ∧ x < 123
  | [], _, _, x, h => by simp [delL] at h
  | p :: rest, s, h, x, hx => by
    have h' : x ∈ wrP (s.d zs p) s.bias ++ delL zs (s.step zs p) rest := hx
    rcases List.mem_append.1 h' with h' | h'
    · exact wrF_mem _ _ _ _ (h.head hl).1 x h'
    · exact del_mem hl rest _ (h.next hl) x h'
theorem del_len {zs : List Int} (hs : Sm zs) : ∀ (rest : List Int) (s : ES), s.Ok zs rest → (delL zs s rest).length ≤ 10 * rest.length
  | [], _, _ => by simp [delL]
  | p :: rest, s, h => by
    have hl := hs.le
    have ih := del_len hs rest _ (h.next (by omega))
    show (wrP (s.d zs p) s.bias ++ delL zs (s.step zs p) rest).length ≤ _
    have h2 := (h.small hs).1
    have h3 : (wrP (s.d zs p) s.bias).length ≤ 8 + 1 := wr_short 8 _ _ _ _ (h.head (by omega)).1 (by show _ < (100000000 : Int); omega)
    rw [List.length_append, List.length_cons]
    omega
theorem enc_shape (zs : List Int) : encP zs = (if (lowL zs).length = 0 then [] else lowL zs ++ [45]) ++ delL zs (ES.start zs) (ordL zs) := out_del zs (ordL zs) (ES.start zs)
theorem low_mem {zs : List Int} (hz : ∀ z ∈ zs, 0 ≤ z ∧ z ≤ 1114111) : ∀ x ∈ lowL zs, 0 ≤ x ∧ x < 128 := by
  intro x hx
  unfold lowL at hx
  obtain ⟨h1, h2⟩ := List.mem_filter.1 hx
  have := hz x h1
  rw [decide_eq_true_eq] at h2
  omega
theorem enc_mem {zs : List Int} (hl : zs.length ≤ 127) (hz : ∀ z ∈ zs, 0 ≤ z ∧ z ≤ 1114111) : ∀ x ∈ encP zs, 0 ≤ x ∧ x ≤ 127 := by
  intro x hx
  rw [enc_shape] at hx
  rcases List.mem_append.1 hx with hx | hx
  · split at hx
    · simp at hx
    · rcases List.mem_append.1 hx with hx | hx
      · have := low_mem hz x hx; omega
      · simp at hx; omega
  · have := del_mem hl _ _ (ES.start_ok zs hz) x hx; omega
theorem low_len (zs : List Int) : (lowL zs).length ≤ zs.length := List.length_filter_le _ _
theorem ord_cnt {zs : List Int} (hz : ∀ z ∈ zs, 0 ≤ z ∧ z ≤ 1114111) : (lowL zs).length + (ordL zs).length = zs.length := (RI.start zs hz).cnt
theorem enc_len {zs : List Int} (hl : zs.length ≤ 40) (hz : ∀ z ∈ zs, 0 ≤ z ∧ z ≤ 1114111) : (encP zs).length ≤ 500 := by
  rw [enc_shape, List.length_append]
  have h1 := del_len (.inl hl) _ _ (ES.start_ok zs hz)
  have h2 := ord_cnt hz
  split
  · simp; omega
  · rw [List.length_append]; simp; omega
theorem hy_cut {A D : List Int} {i : Int} (hD : ∀ x ∈ D, x ≠ 45) (h : Hy ((if A.length = 0 then [] else A ++ [45]) ++ D) i) : ((if A.length = 0 then [] else A ++ [45]) ++ D).take i.toNat = A ∧ ((if A.length = 0 then [] else A ++ [45]) ++ D).drop (i + 1).toNat = D := by
  obtain ⟨h1, h2, h3, h4⟩ := h
  by_cases hA : A.length = 0
  · rw [if_pos hA, List.nil_append] at *
    have hi : i = -1 := by
      by_cases hc : 0 ≤ i
      · have hk : i.toNat < D.length := by omega
        have h4' := h4 i.toNat (by omega) hk
        exact absurd h4' (hD _ (List.getElem_mem _))
      · omega
    subst hi
    exact ⟨(List.eq_nil_of_length_eq_zero hA).symm, rfl⟩
  · rw [if_neg hA, List.append_assoc] at *
    have hlen : (A ++ ([45] ++ D)).length = A.length + 1 + D.length := by simp; omega
    rw [hlen] at h2
    have hi : i = A.length := by
      rcases Int.lt_trichotomy i A.length with hc | hc | hc
      · exact absurd (by simp) (h3 A.length (by omega) hc)
      · exact hc
      · obtain ⟨k, rfl⟩ : ∃ k : Nat, i = ((A.length + 1 + k : Nat) : Int) := ⟨(i - A.length - 1).toNat, by omega⟩
        have hk : k < D.length := by omega
        have h4' := h4 (A.length + 1 + k) rfl (by omega)
        have e : (A ++ ([45] ++ D))[A.length + 1 + k]? = some D[k] := by
          rw [List.getElem?_append_right (by omega), show A.length + 1 + k - A.length = k + 1 by omega]
          show (45 :: D)[k + 1]? = _
          rw [List.getElem?_cons_succ, List.getElem?_eq_getElem hk]
        rw [List.getElem?_eq_getElem (by omega), h4'] at e
        exact absurd (Option.some.inj e).symm (hD _ (List.getElem_mem _))
    subst hi
    refine ⟨?_, ?_⟩
    · rw [Int.toNat_natCast, List.take_left']; rfl
    · rw [show ((A.length : Int) + 1).toNat = A.length + 1 by omega, ← List.append_assoc, List.drop_left']; simp
/-- What is encoded is decoded as it was. -/
theorem enc_dec' {zs : List Int} (hs : Sm zs) (hz : ∀ z ∈ zs, 0 ≤ z ∧ z ≤ 1114111) {i : Int} (h : Hy (encP zs) i) :
    decP (encP zs) i = .inr zs ∧ ∀ es, rdS ((encP zs).drop (i + 1).toNat).length ⟨128, 0, 72, ((encP zs).take i.toNat).length, []⟩ ((encP zs).drop (i + 1).toNat) = .inr es → ((encP zs).take i.toNat).length + es.length ≤ 120 := by
  have hl := hs.le
  have hok := ES.start_ok zs hz
  rw [enc_shape] at h ⊢
  obtain ⟨h1, h2⟩ := hy_cut (fun x hx => by have := del_mem (by omega) _ _ hok x hx; omega) h
  have hr := rdS_back hs (ordL zs) (ES.start zs) ⟨128, 0, 72, (lowL zs).length, []⟩ (delL zs (ES.start zs) (ordL zs)).length hok rfl rfl rfl rfl rfl (Nat.le_refl _)
  have hc := ord_cnt hz
  refine ⟨?_, fun es hes => ?_⟩
  · unfold decP
    rw [h1, h2, hr, if_neg (by
      rw [Bool.not_eq_true, List.any_eq_false]
      intro x hx
      have := low_mem hz x hx
      rw [decide_eq_true_eq]; omega)]
    show Sum.inr (putL (lowL zs) ([] ++ _)) = _
    rw [List.nil_append, put_all (by omega) hz]
  · rw [h1, h2, hr] at hes
    have he := Sum.inr.inj hes
    rw [← he, h1]
    show _ + (entL zs _ _).length ≤ _
    rw [ent_len]; omega
theorem enc_dec {zs : List Int} (hl : zs.length ≤ 40) (hz : ∀ z ∈ zs, 0 ≤ z ∧ z ≤ 1114111) {i : Int} (h : Hy (encP zs) i) :
    decP (encP zs) i = .inr zs ∧ ∀ es, rdS ((encP zs).drop (i + 1).toNat).length ⟨128, 0, 72, ((encP zs).take i.toNat).length, []⟩ ((encP zs).drop (i + 1).toNat) = .inr es → ((encP zs).take i.toNat).length + es.length ≤ 120 := enc_dec' (.inl hl) hz h
/-- No fewer digits than code points. -/
theorem del_ge {zs : List Int} : ∀ (rest : List Int) (s : ES), rest.length ≤ (delL zs s rest).length
  | [], _ => by simp [delL]
  | p :: rest, s => by
    have ih := del_ge (zs := zs) rest (s.step zs p)
    show _ ≤ (wrP (s.d zs p) s.bias ++ delL zs (s.step zs p) rest).length
    have := wrP_ne (s.d zs p) s.bias
    rw [List.length_append, List.length_cons]; omega
theorem enc_ge {zs : List Int} (hz : ∀ z ∈ zs, 0 ≤ z ∧ z ≤ 1114111) : zs.length ≤ (encP zs).length := by
  have h1 := ord_cnt hz
  have h2 := del_ge (zs := zs) (ordL zs) (ES.start zs)
  rw [enc_shape, List.length_append]
  split
  · simp; omega
  · rw [List.length_append]; simp; omega
/-- The digits are in lower case. -/
theorem wrF_low : ∀ (n : Nat) (d k b : Int), 0 ≤ d → ∀ x ∈ wrF n d k b, x ≤ 57 ∨ 97 ≤ x
  | 0, d, k, b, h, x, hx => by simp [wrF] at hx
  | n + 1, d, k, b, h, x, hx => by
    have ht := th_bd k b
    simp only [wrF] at hx
    split at hx
    · rename_i hd
      rw [List.mem_singleton] at hx
      rw [hx]
      have := (vd h (by omega)).2.1
      omega
    · rename_i hd
      have hq := q_lt d k b hd
      have hr0 := Int.emod_nonneg (d - thP k b) (b := 36 - thP k b) (by omega)
      have hr1 := Int.emod_lt_of_pos (d - thP k b) (b := 36 - thP k b) (by omega)
      rcases List.mem_cons.1 hx with rfl | hx
      · have := (vd (v := thP k b + (d - thP k b) % (36 - thP k b)) (by omega) (by omega)).2.1
        omega
      · exact wrF_low n _ _ _ hq.1 x hx
theorem del_low {zs : List Int} (hl : zs.length ≤ 127) : ∀ (rest : List Int) (s : ES), s.Ok zs rest → ∀ x ∈ delL zs s rest, x ≤ 57 ∨ 97 ≤ x
  | [], _, _, x, hx => by simp [delL] at hx
  | p :: rest, s, h, x, hx => by
    have hx : x ∈ wrP (s.d zs p) s.bias ++ delL zs (s.step zs p) rest := hx
    rcases List.mem_append.1 hx with hx | hx
    · exact wrF_low _ _ _ _ (h.head hl).1 x hx
    · exact del_low hl rest _ (h.next hl) x hx
theorem bsI_byt (l : List Int) (h : ∀ x ∈ l, 0 ≤ x ∧ x ≤ 255) : bsI (byt l) = l := by
  unfold bsI byt
  simp only [List.map_map]
  conv => rhs; rw [← List.map_id l]
  refine List.map_congr_left fun x hx => ?_
  have := h x hx
  simp
  omega
end Pu
end Go.Proofs.Ytoknfhjclpdihaa
