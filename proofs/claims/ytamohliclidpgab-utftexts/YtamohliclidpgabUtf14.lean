import Derived.Test.YtamohliclidpgabUtf13
namespace Go.Proofs.Ytamohliclidpgab
open Go.RowKit

theorem Sl.nil {k : IntKind} {w : World} {v : Value} (h : Sl k w v []) : ∃ a cap, v = .slice a 0 cap := by
  rcases h with ⟨_, h⟩ | ⟨b, off, cap, h, _⟩
  · exact h
  · exact ⟨_, _, h⟩

theorem Ok.drewN {B : Nat} {W0 w : World} (h : Ok B W0 w) (n : Nat) : Ok B W0 (w.drewN n) := ⟨⟨h.1.os, h.1.tape, h.1.output, h.1.size, h.1.block⟩, h.2⟩

theorem rsame_nil (a a' : Option Addr) (cap cap' : Nat) (w : World) :
    Calls Try.prog 20 #[.slice a 0 cap, .slice a' 0 cap'] w fun e w' => e = .returned (.bool true) ∧ Below w.heap.size w w' := by
  go_enter Try.func20, Try.ntmps20
  go_wp2
  go_loop [5] (fun i => i = .int .i64 0) (fun _ => 0)
  case atStart => rfl
  case round =>
    subst hrel
    go_wp2_with fail
    go_ret
    exact ⟨rfl, Below.refl _ _⟩

set_option maxHeartbeats 2000000 in
theorem rsame_cons (b off cap b' off' cap' n : Nat) (zs : List Int) (w : World) (hl : zs.length = n) (hb : b < w.heap.size) (hb' : b' < w.heap.size) (hn : n ≤ 1000000) (hc : ∀ j (h : j < zs.length), w.cell? ⟨b, off + j, none⟩ = some (.int .i64 zs[j])) (hc' : ∀ j (h : j < zs.length), w.cell? ⟨b', off' + j, none⟩ = some (.int .i64 zs[j])) :
    Calls Try.prog 20 #[.slice (some ⟨b, off, none⟩) n cap, .slice (some ⟨b', off', none⟩) n cap'] w fun e w' => e = .returned (.bool true) ∧ Below w.heap.size w w' := by
  have HC : Hid (∀ j (h : j < zs.length), w.cell? ⟨b, off + j, none⟩ = some (.int .i64 zs[j])) := hc
  have HC' : Hid (∀ j (h : j < zs.length), w.cell? ⟨b', off' + j, none⟩ = some (.int .i64 zs[j])) := hc'
  have HL : Hid (zs.length = n) := hl
  clear hc hc' hl
  go_enter Try.func20, Try.ntmps20
  go_wp2
  go_loopw [5] (fun i wr => ∃ k : Nat, k ≤ n ∧ i = .int .i64 k ∧ Ok w.heap.size w wr) (fun i _ => n - (intOf i).toNat)
  case atStart => exact ⟨0, by omega, rfl, Ok.start w⟩
  case round =>
    obtain ⟨k, hk, rfl, hok⟩ := hrel
    by_cases hlt : k < n
    · have h1 : wr.cell? ⟨b, off + k, none⟩ = some (.int .i64 (zs.getD k 0)) := by
        rw [hok.1.cell (p := ⟨b, off + k, none⟩) hb, HC.out k (by rw [HL.out]; exact hlt)]
        rw [List.getD_eq_getElem?_getD, List.getElem?_eq_getElem (by rw [HL.out]; exact hlt)]; rfl
      have h2 : wr.cell? ⟨b', off' + k, none⟩ = some (.int .i64 (zs.getD k 0)) := by
        rw [hok.1.cell (p := ⟨b', off' + k, none⟩) hb', HC'.out k (by rw [HL.out]; exact hlt)]
        rw [List.getD_eq_getElem?_getD, List.getElem?_eq_getElem (by rw [HL.out]; exact hlt)]; rfl
      generalize zs.getD k 0 = z at *
      have hlt' : (k : Int) < (n : Int) := by omega
      go_wp2_with fail
      go_quiet (fail)
      go_wp2
      go_roundw
      case rel => exact ⟨k + 1, by omega, by go_num, hok.drewN nq⟩
      case measure => simp [intOf]; omega
    · go_wp2_with fail
      go_ret
      exact ⟨rfl, hok.1⟩

theorem rsame_any (v v' : Value) (zs : List Int) (w : World) (h : Sl .i64 w v zs) (h' : Sl .i64 w v' zs) (hn : zs.length ≤ 1000000) :
    Calls Try.prog 20 #[v, v'] w fun e w' => e = .returned (.bool true) ∧ Below w.heap.size w w' := by
  by_cases hz : zs = []
  · subst hz
    obtain ⟨a, cap, rfl⟩ := h.nil
    obtain ⟨a', cap', rfl⟩ := h'.nil
    exact rsame_nil a a' cap cap' w
  · rcases h with ⟨e, _⟩ | ⟨b, off, cap, rfl, hb, hc⟩
    · exact absurd e hz
    · rcases h' with ⟨e, _⟩ | ⟨b', off', cap', rfl, hb', hc'⟩
      · exact absurd e hz
      · exact rsame_cons b off cap b' off' cap' zs.length zs w rfl hb hb' hn hc hc'

theorem runesF_fuel (l : List UInt8) : ∀ f f' i, l.length ≤ i + f → l.length ≤ i + f' → runesF l f i = runesF l f' i
  | 0, f', i, h, _ => by rw [runesF_end l f' i (by omega)]; rfl
  | f + 1, 0, i, _, h' => by rw [runesF_end l (f + 1) i (by omega)]; rfl
  | f + 1, f' + 1, i, h, h' => by
    simp only [runesF]
    by_cases hi : i < l.length
    · have f1 := (fit_spec (l.drop i)).1
      rw [if_pos hi, if_pos hi, runesF_fuel l f f' (i + fit (l.drop i)) (by omega) (by omega)]
    · rw [if_neg hi, if_neg hi]

theorem runesF_shift (a b : List UInt8) : ∀ f i, runesF (a ++ b) f (a.length + i) = runesF b f i
  | 0, i => by simp [runesF]
  | f + 1, i => by
    simp only [runesF]
    rw [drop_app, List.length_append]
    by_cases hi : i < b.length
    · rw [if_pos (by omega), if_pos hi, Nat.add_assoc, runesF_shift a b f]
    · rw [if_neg (by omega), if_neg hi]

theorem runes_cons (p t : List UInt8) (h : okL p = true) (hf : fit p = p.length) : runesL (p ++ t) = (valL p : Int) :: runesL t := by
  obtain ⟨o1, o2, o3⟩ := ok_append p t h
  have hl : 1 ≤ p.length := by rw [← hf]; exact (fit_spec p).1
  unfold runesL
  rw [List.length_append]
  obtain ⟨m, hm⟩ : ∃ m, p.length = m + 1 := ⟨p.length - 1, by omega⟩
  have e : p.length + t.length = (m + t.length) + 1 := by omega
  rw [e]
  simp only [runesF, List.drop_zero]
  rw [if_pos (by rw [List.length_append]; omega), o2, o3, hf, Nat.zero_add]
  have s := runesF_shift p t (m + t.length) 0
  rw [Nat.add_zero] at s
  rw [s, runesF_fuel t (m + t.length) t.length 0 (by omega) (by omega)]

theorem text_back (zs : List Int) (h : zs.all scB = true) : runesL (textL zs) = zs ∧ faultL (textL zs) < 0 := by
  induction zs with
  | nil => exact ⟨rfl, by decide⟩
  | cons z zs ih =>
    simp only [List.all_cons, Bool.and_eq_true] at h
    obtain ⟨i1, i2⟩ := ih h.2
    obtain ⟨o1, o2, o3⟩ := enc_ok z h.1 []
    rw [List.append_nil] at o1 o2 o3
    rw [← len_size] at o3
    have e : textL (z :: zs) = (encS z).data.toList ++ textL zs := by simp [textL]
    rw [e]
    refine ⟨by rw [runes_cons _ _ o1 o3, i1, o2], ?_⟩
    obtain ⟨p1, _⟩ := one_part _ o1 o3
    rw [(joins _ (textL zs) (by omega)).1, if_neg (by omega)]; exact i2

theorem runes_back (l : List UInt8) : ∀ f i, i ≤ l.length → l.length ≤ i + f → faultF l f i < 0 → textL (runesF l f i) = l.drop i ∧ (runesF l f i).all scB = true ∧ (runesF l f i).length ≤ l.length - i
  | 0, i, h1, h2, _ => by rw [List.drop_of_length_le (by omega)]; exact ⟨rfl, rfl, by simp [runesF]⟩
  | f + 1, i, h1, h2, h3 => by
    simp only [runesF, faultF] at h3 ⊢
    by_cases hi : i < l.length
    · rw [if_pos hi] at h3 ⊢
      by_cases ho : okL (l.drop i) = true
      · rw [if_pos ho] at h3
        have f1 := (fit_spec (l.drop i)).1
        have f2 := fit_le (l.drop i) ((okL_iff _).1 ho).1
        rw [List.length_drop] at f2
        obtain ⟨q1, q2, q3⟩ := runes_back l f (i + fit (l.drop i)) (by omega) (by omega) h3
        obtain ⟨a, b, _, _⟩ := ok_facts _ ho
        have e : (encS (valL (l.drop i))).data.toList = (l.drop i).take (fit (l.drop i)) := by unfold encS; rw [if_pos a]; exact b
        refine ⟨?_, by rw [List.all_cons, a, q2]; rfl, by rw [List.length_cons]; omega⟩
        have e2 : textL ((valL (l.drop i) : Int) :: runesF l f (i + fit (l.drop i))) = (encS (valL (l.drop i))).data.toList ++ textL (runesF l f (i + fit (l.drop i))) := by simp [textL]
        rw [e2, q1, e, ← List.drop_drop]
        exact List.take_append_drop _ _
      · rw [if_neg ho] at h3; omega
    · rw [if_neg hi, List.drop_of_length_le (by omega)]; exact ⟨rfl, rfl, by simp⟩

theorem runesL_back (l : List UInt8) (h : faultL l < 0) : textL (runesL l) = l ∧ (runesL l).all scB = true ∧ (runesL l).length ≤ l.length := by
  have := runes_back l l.length 0 (by omega) (by omega) h
  rw [List.drop_zero] at this
  exact ⟨this.1, this.2.1, by have := this.2.2; unfold runesL; omega⟩

theorem sc_range (zs : List Int) (h : zs.all scB = true) : ∀ z ∈ zs, -2147483648 ≤ z ∧ z ≤ 2147483647 := by
  intro z hz
  have := of_decide_eq_true (List.all_eq_true.1 h z hz)
  omega
end Go.Proofs.Ytamohliclidpgab
