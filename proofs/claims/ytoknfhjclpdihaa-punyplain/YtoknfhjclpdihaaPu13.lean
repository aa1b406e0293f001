import Derived.Test.YtoknfhjclpdihaaPu12
namespace Go.Proofs.Ytoknfhjclpdihaa
namespace Pu
open Go.RowKit Od

set_option maxRecDepth 1000000 in
theorem mid_ck : (List.range 9).all (fun e => (List.range 129).all fun q => decide (128 < q * 2 ^ (e + 1) + 2 ^ e) || (lb (q * 2 ^ (e + 1) + 2 ^ e) == 2 ^ e)) = true := by kernel_rfl
theorem lb_mid {e p : Nat} (he : e ≤ 8) (hp : p % 2 ^ (e + 1) = 0) (hb : p + 2 ^ e ≤ 128) : lb (p + 2 ^ e) = 2 ^ e := by
  have h1 := List.all_eq_true.1 mid_ck e (List.mem_range.2 (by omega))
  have hpos : 1 ≤ 2 ^ (e + 1) := Nat.one_le_two_pow
  have hq : p / 2 ^ (e + 1) ≤ p := Nat.div_le_self _ _
  have h2 := List.all_eq_true.1 h1 (p / 2 ^ (e + 1)) (List.mem_range.2 (by omega))
  have e1 : p / 2 ^ (e + 1) * 2 ^ (e + 1) = p := Nat.div_mul_cancel (Nat.dvd_of_mod_eq_zero hp)
  rw [e1, Bool.or_eq_true, decide_eq_true_eq, beq_iff_eq] at h2
  omega

/-- What is known while a place is looked for. -/
structure Fnd (a : List Int) (m0 : Int) (place step : Nat) (cur : Int) : Prop where
  cur_ : cur = m0 - ps a place
  low : ps a place ≤ m0
  in_ : place ≤ a.length
  hi : ∀ q, place + (if step = 0 then 1 else 2 * step) ≤ q → q ≤ a.length → m0 < ps a q
theorem Fnd.yes {a : List Int} {m0 cur x : Int} {place e : Nat} (h : Fnd a m0 place (2 ^ e) cur) (hx : x = ps a (place + 2 ^ e) - ps a place) (hle : x ≤ cur) (hin : place + 2 ^ e ≤ a.length) : Fnd a m0 (place + 2 ^ e) (2 ^ e / 2) (cur - x) := by
  have h1 := h.cur_
  have h2 := h.low
  have hpos : 1 ≤ 2 ^ e := Nat.one_le_two_pow
  refine ⟨by omega, by omega, hin, fun q q1 q2 => h.hi q ?_ q2⟩
  rw [if_neg (by omega)]
  cases e with
  | zero => simp at q1 ⊢; omega
  | succ e =>
    have e2 : 2 ^ (e + 1) = 2 * 2 ^ e := by rw [Nat.pow_succ]; omega
    have hp2 : 1 ≤ 2 ^ e := Nat.one_le_two_pow
    rw [if_neg (by omega)] at q1
    omega
theorem Fnd.no {a : List Int} {m0 cur : Int} {place e : Nat} (h : Fnd a m0 place (2 ^ e) cur) (hn : ∀ q, place + 2 ^ e ≤ q → q ≤ a.length → m0 < ps a q) : Fnd a m0 place (2 ^ e / 2) cur := by
  refine ⟨h.cur_, h.low, h.in_, fun q q1 q2 => hn q ?_ q2⟩
  cases e with
  | zero => simp at q1 ⊢; omega
  | succ e =>
    have e2 : 2 ^ (e + 1) = 2 * 2 ^ e := by rw [Nat.pow_succ]; omega
    have hp2 : 1 ≤ 2 ^ e := Nat.one_le_two_pow
    rw [if_neg (by omega)] at q1
    omega
theorem Fnd.end_ {a : List Int} {m0 cur : Int} {place : Nat} (h : Fnd a m0 place 0 cur) (hbd : ∀ x ∈ a, 0 ≤ x ∧ x ≤ 1) (ht : m0 < ps a a.length) : ∃ hp : place < a.length, ps a place = m0 ∧ a[place] = 1 := by
  have hlt : place < a.length := by
    by_cases e : place = a.length
    · have := h.low; rw [e] at this; omega
    · have := h.in_; omega
  have h1 := h.hi (place + 1) (by simp) (by omega)
  rw [ps_succ _ _ hlt] at h1
  have h2 := hbd a[place] (List.getElem_mem hlt)
  have h3 := h.low
  exact ⟨hlt, by omega, by omega⟩

/-- The place at which one stands, so many ahead of it. -/
def At1 (a : List Int) (p : Nat) (m0 : Int) : Prop := ∃ hp : p < a.length, ps a p = m0 ∧ a[p] = 1
set_option maxRecDepth 100000 in
set_option maxHeartbeats 4000000 in
theorem tfind_any {w : World} {b cap : Nat} {R a : List Int} {T : List Value} (h : Blk w b R T) (hT : Tal R a) (m0 : Int) (h0 : 0 ≤ m0) (h1 : m0 < ps a a.length) (n : Nat) (hn : R.length = n) :
    Calls Try.prog 41 #[.slice (some ⟨b, 0, none⟩) n cap, .int .i64 m0] w fun e w' => (∃ p : Nat, e = .returned (.int .i64 p) ∧ At1 a p m0) ∧ w' = w := by
  have hle := hT.le
  have hln := hT.len
  have HT := hid hT
  have HB := hid h
  have hps := (ps_bd a hT.bd a.length).2
  have n1 : n ≤ 128 := by omega
  have HL : Hid (a.length + 1 = n ∧ R.length = n) := ⟨by omega, hn⟩
  have HLe := hid (len_any n (by omega) w)
  have m1 : m0 ≤ 127 := by omega
  have H1 := hid h1
  clear h hT hle hln hn hps h1
  go_enter Try.func41, Try.ntmps41
  go_wp2_with fail
  refine HLe.out.mono ?_
  rintro e w1 ⟨⟨mm, rfl, hm1, hm2⟩, rfl⟩
  go_wp2_with fail
  go_loop [1, 5, 6] (fun vm vp vs => ∃ (cur : Int) (place step : Nat), vm = .int .i64 cur ∧ vp = .int .i64 place ∧ vs = .int .i64 step ∧ -200 ≤ cur ∧ cur ≤ 200 ∧ place ≤ 128 ∧ step ≤ 256 ∧ Hid ((step = 0 ∨ ∃ e, e ≤ 8 ∧ step = 2 ^ e ∧ place % 2 ^ (e + 1) = 0) ∧ Fnd a m0 place step cur)) (fun _ _ vs => (intOf vs).toNat)
  case atStart =>
    have hf : Fnd a m0 0 (2 ^ mm) m0 := by
      have hpos : 1 ≤ 2 ^ mm := Nat.one_le_two_pow
      refine ⟨by simp [ps], by simp [ps]; exact h0, Nat.zero_le _, fun q q1 q2 => ?_⟩
      rw [if_neg (by omega)] at q1
      have := HL.out
      omega
    refine ⟨m0, 0, 2 ^ mm, rfl, rfl, ?_, by omega, by omega, by omega, ?_, .inr ⟨mm, hm2, rfl, by simp⟩, hf⟩
    · have : mm = 0 ∨ mm = 1 ∨ mm = 2 ∨ mm = 3 ∨ mm = 4 ∨ mm = 5 ∨ mm = 6 ∨ mm = 7 ∨ mm = 8 := by omega
      rcases this with rfl | rfl | rfl | rfl | rfl | rfl | rfl | rfl | rfl <;> (refine congrArg (Value.int IntKind.i64) ?_; unfold wrap64; decide)
    · have : mm = 0 ∨ mm = 1 ∨ mm = 2 ∨ mm = 3 ∨ mm = 4 ∨ mm = 5 ∨ mm = 6 ∨ mm = 7 ∨ mm = 8 := by omega
      rcases this with rfl | rfl | rfl | rfl | rfl | rfl | rfl | rfl | rfl <;> decide
  case round =>
    obtain ⟨cur, place, step, rfl, rfl, rfl, c1, c2, p1, s1, H⟩ := hrel
    by_cases hs : step = 0
    · subst hs
      have HE := hid (H.out.2.end_ HT.out.bd H1.out)
      go_wp2_with fail
      go_ret
      exact ⟨⟨place, rfl, HE.out⟩, rfl⟩
    · rcases H.out.1 with h | ⟨e, he, rfl, hmod⟩
      · exact absurd h hs
      · have hpos : 1 ≤ 2 ^ e := Nat.one_le_two_pow
        have HF := hid H.out.2
        have HM := hid hmod
        have hdv : Hid ((2 ^ e / 2 = 0 ∨ ∃ e', e' ≤ 8 ∧ 2 ^ e / 2 = 2 ^ e' ∧ (place + 2 ^ e) % 2 ^ (e' + 1) = 0 ∧ place % 2 ^ (e' + 1) = 0)) := by
          cases e with
          | zero => exact .inl rfl
          | succ e =>
            refine .inr ⟨e, by omega, ?_, ?_, ?_⟩
            · rw [Nat.pow_succ]; omega
            · have hd1 : 2 ^ (e + 1) ∣ place := Nat.dvd_trans ⟨2, by rw [Nat.pow_succ 2 (e + 1)]⟩ (Nat.dvd_of_mod_eq_zero hmod)
              exact Nat.mod_eq_zero_of_dvd (Nat.dvd_add hd1 (Nat.dvd_refl _))
            · exact Nat.mod_eq_zero_of_dvd (Nat.dvd_trans ⟨2, by rw [Nat.pow_succ 2 (e + 1)]⟩ (Nat.dvd_of_mod_eq_zero hmod))
        have z1 : (0 : Int) < ((2 ^ e : Nat) : Int) := by omega
        clear H
        have HLb := hid (fun hb => lb_mid he HM.out (p := place) hb)
        generalize hse : 2 ^ e = st at *
        have HSe := hid hse
        clear hse hs hmod
        by_cases hto : place + st < n
        · have z2 : ((place : Int) + (st : Int)) < (n : Int) := by omega
          have hq1 : 1 ≤ place + st := by omega
          have hq2 : place + st ≤ a.length := by have := HL.out; omega
          have hlc : place + st < R.length := by have := HL.out; omega
          have c3 := HB.out.cell (place + st) (R.getD (place + st) 0) (by rw [List.getD_eq_getElem?_getD, List.getElem?_eq_getElem hlc]; rfl)
          have hx := HT.out.cell_bd (place + st) hq1 hq2
          have hsum : Hid (R.getD (place + st) 0 = ps a (place + st) - ps a place) := by
            show _ = _
            rw [HT.out.sums _ hq1 hq2, HLb.out (by omega), Nat.add_sub_cancel]
          generalize R.getD (place + st) 0 = x at *
          have q4 : ((place : Int) + (st : Int)).toNat = place + st := by omega
          have q5 : (0 : Int) ≤ (place : Int) + (st : Int) := by omega
          by_cases hxc : x ≤ cur
          · have HY : Hid (Fnd a m0 (place + st) (st / 2) (cur - x)) := by
              have := HF.out
              rw [← HSe.out] at this ⊢
              refine this.yes ?_ hxc (by rw [HSe.out]; exact hq2)
              rw [HSe.out]; exact hsum.out
            have hcb := HY.out.cur_
            have hlo := HY.out.low
            have b3 := ps_bd a HT.out.bd (place + st)
            have b4 : -200 ≤ cur - x ∧ cur - x ≤ 200 := by omega
            clear hcb hlo b3
            go_wp2_with fail
            go_round
            case rel =>
              refine ⟨cur - x, place + st, st / 2, by go_num, by go_num, by first | rfl | (congr 1; omega), b4.1, b4.2, by omega, by omega, ?_, HY.out⟩
              rcases hdv.out with h | ⟨e', h1, h2, h3, _⟩
              · exact .inl h
              · exact .inr ⟨e', h1, h2, h3⟩
            case measure => simp [intOf]; omega
          · have HN : Hid (Fnd a m0 place (st / 2) cur) := by
              have := HF.out
              rw [← HSe.out] at this ⊢
              refine this.no (fun q q1 q2 => ?_)
              rw [HSe.out] at q1
              have hm := ps_mono a HT.out.bd (place + st) q q1
              have h5 := hsum.out
              have h6 := HF.out.cur_
              omega
            have hx3 : decide (x ≤ cur) = false := decide_eq_false hxc
            go_wp2_with fail
            go_round
            case rel =>
              refine ⟨cur, place, st / 2, rfl, rfl, by first | rfl | (congr 1; omega), c1, c2, by omega, by omega, ?_, HN.out⟩
              rcases hdv.out with h | ⟨e', h1, h2, _, h3⟩
              · exact .inl h
              · exact .inr ⟨e', h1, h2, h3⟩
            case measure => simp [intOf]; omega
        · have HN : Hid (Fnd a m0 place (st / 2) cur) := by
            have := HF.out
            rw [← HSe.out] at this ⊢
            refine this.no (fun q q1 q2 => ?_)
            rw [HSe.out] at q1
            have := HL.out
            omega
          have z2 : ¬ ((place : Int) + (st : Int)) < (n : Int) := by omega
          go_wp2_with fail
          go_round
          case rel =>
            refine ⟨cur, place, st / 2, rfl, rfl, by first | rfl | (congr 1; omega), c1, c2, by omega, by omega, ?_, HN.out⟩
            rcases hdv.out with h | ⟨e', h1, h2, _, h3⟩
            · exact .inl h
            · exact .inr ⟨e', h1, h2, h3⟩
          case measure => simp [intOf]; omega
end Pu
end Go.Proofs.Ytoknfhjclpdihaa
