import Derived.Test.YtamohliclidpgabUtf8
import Derived.Deep.RegionWith
namespace Go.Proofs.Ytamohliclidpgab
open Go.RowKit

theorem bt_append (l t : List UInt8) (j : Nat) (h : j < l.length) : bt (l ++ t) j = bt l j := by
  unfold bt; rw [List.getD_eq_getElem?_getD, List.getD_eq_getElem?_getD, List.getElem?_append_left h]

/-- What begins with a scalar value begins with it, whatever stands behind. -/
theorem ok_append (l t : List UInt8) (h : okL l = true) : okL (l ++ t) = true ∧ fit (l ++ t) = fit l ∧ valL (l ++ t) = valL l := by
  obtain ⟨hne, hf⟩ := (okL_iff l).1 h
  obtain ⟨f1, f4, fg, fn⟩ := fit_spec l
  have fl := fit_le l hne
  have h0 : bt (l ++ t) 0 = bt l 0 := bt_append l t 0 (by omega)
  have hfit : fit (l ++ t) = fit l := by
    refine fit_eq _ _ f1 (fun j a b => ?_) (fun g => ?_)
    · have g := fg j a b
      unfold goOn at g ⊢
      rw [h0, bt_append l t j (by omega), List.length_append]
      omega
    · unfold goOn at g; rw [h0] at g; omega
  refine ⟨(okL_iff _).2 ⟨by simp [hne], by rw [h0, hf, hfit]⟩, hfit, ?_⟩
  unfold valL
  rw [h0, hf]
  by_cases c1 : fit l = 1
  · rw [if_pos c1, if_pos c1]
  · by_cases c2 : fit l = 2
    · rw [if_neg c1, if_pos c2, if_neg c1, if_pos c2, bt_append l t 1 (by omega)]
    · by_cases c3 : fit l = 3
      · rw [if_neg c1, if_neg c2, if_pos c3, if_neg c1, if_neg c2, if_pos c3, bt_append l t 1 (by omega), bt_append l t 2 (by omega)]
      · rw [if_neg c1, if_neg c2, if_neg c3, if_neg c1, if_neg c2, if_neg c3, bt_append l t 1 (by omega), bt_append l t 2 (by omega), bt_append l t 3 (by omega)]

theorem faultF_fuel (l : List UInt8) : ∀ f f' i, l.length ≤ i + f → l.length ≤ i + f' → faultF l f i = faultF l f' i
  | 0, f', i, h, _ => by rw [faultF_end l f' i (by omega)]; rfl
  | f + 1, 0, i, _, h' => by rw [faultF_end l (f + 1) i (by omega)]; rfl
  | f + 1, f' + 1, i, h, h' => by
    simp only [faultF]
    by_cases hi : i < l.length
    · have f1 := (fit_spec (l.drop i)).1
      rw [if_pos hi, if_pos hi, faultF_fuel l f f' (i + fit (l.drop i)) (by omega) (by omega)]
    · rw [if_neg hi, if_neg hi]

theorem countF_fuel (l : List UInt8) : ∀ f f' i, l.length ≤ i + f → l.length ≤ i + f' → countF l f i = countF l f' i
  | 0, f', i, h, _ => by rw [countF_end l f' i (by omega)]; rfl
  | f + 1, 0, i, _, h' => by rw [countF_end l (f + 1) i (by omega)]; rfl
  | f + 1, f' + 1, i, h, h' => by
    simp only [countF]
    by_cases hi : i < l.length
    · have f1 := (fit_spec (l.drop i)).1
      rw [if_pos hi, if_pos hi, countF_fuel l f f' (i + fit (l.drop i)) (by omega) (by omega)]
    · rw [if_neg hi, if_neg hi]

theorem drop_app (a b : List UInt8) (i : Nat) : (a ++ b).drop (a.length + i) = b.drop i := by simp

def shI (n : Nat) (x : Int) : Int := if 0 ≤ x then x + n else -1

theorem faultF_shift (a b : List UInt8) : ∀ f i, faultF (a ++ b) f (a.length + i) = shI a.length (faultF b f i)
  | 0, i => by simp [faultF, shI]
  | f + 1, i => by
    simp only [faultF]
    rw [drop_app, List.length_append]
    by_cases hi : i < b.length
    · rw [if_pos (by omega), if_pos hi]
      by_cases ho : okL (b.drop i) = true
      · rw [if_pos ho, if_pos ho, Nat.add_assoc, faultF_shift a b f]
      · rw [if_neg ho, if_neg ho]; unfold shI; rw [if_pos (by omega)]; omega
    · rw [if_neg (by omega), if_neg hi]; simp [shI]

theorem countF_shift (a b : List UInt8) : ∀ f i, countF (a ++ b) f (a.length + i) = countF b f i
  | 0, i => by simp [countF]
  | f + 1, i => by
    simp only [countF]
    rw [drop_app, List.length_append]
    by_cases hi : i < b.length
    · rw [if_pos (by omega), if_pos hi, Nat.add_assoc, countF_shift a b f]
    · rw [if_neg (by omega), if_neg hi]

/-- Through a well-formed text, one scalar value behind the other. -/
theorem through (a b : List UInt8) : ∀ f i, i ≤ a.length → a.length ≤ i + f → faultF a f i = -1 → faultF (a ++ b) (f + b.length) i = faultF (a ++ b) b.length a.length ∧ countF (a ++ b) (f + b.length) i = countF a f i + countF (a ++ b) b.length a.length
  | 0, i, h1, h2, _ => by
    have : i = a.length := by omega
    subst this
    simp [countF]
  | f + 1, i, h1, h2, h3 => by
    by_cases hi : i < a.length
    · simp only [faultF] at h3
      rw [if_pos hi] at h3
      have hd : (a ++ b).drop i = a.drop i ++ b := List.drop_append_of_le_length (by omega)
      by_cases ho : okL (a.drop i) = true
      · rw [if_pos ho] at h3
        obtain ⟨o1, o2, _⟩ := ok_append (a.drop i) b ho
        have f1 := (fit_spec (a.drop i)).1
        have fl := fit_le (a.drop i) ((okL_iff _).1 ho).1
        rw [List.length_drop] at fl
        obtain ⟨q1, q2⟩ := through a b f (i + fit (a.drop i)) (by omega) (by omega) h3
        have e : f + 1 + b.length = (f + b.length) + 1 := by omega
        rw [e]
        simp only [faultF, countF]
        rw [hd, o1, o2, List.length_append, if_pos (by omega), if_pos rfl, if_pos (by omega), if_pos hi, q1, q2]
        exact ⟨rfl, by omega⟩
      · rw [if_neg ho] at h3
        omega
    · have hil : i = a.length := by omega
      subst hil
      rw [countF_end a (f + 1) a.length (by omega), Nat.zero_add]
      exact ⟨faultF_fuel _ _ _ _ (by simp) (by simp), countF_fuel _ _ _ _ (by simp) (by simp)⟩

theorem faultF_neg (l : List UInt8) : ∀ f i, faultF l f i < 0 → faultF l f i = -1
  | 0, i, _ => rfl
  | f + 1, i, h => by
    simp only [faultF] at h ⊢
    by_cases hi : i < l.length
    · rw [if_pos hi] at h ⊢
      by_cases ho : okL (l.drop i) = true
      · rw [if_pos ho] at h ⊢; exact faultF_neg l f _ h
      · rw [if_neg ho] at h; omega
    · rw [if_neg hi]

theorem joins (a b : List UInt8) (h : faultL a < 0) : faultL (a ++ b) = (if 0 ≤ faultL b then faultL b + a.length else faultL b) ∧ countL (a ++ b) = countL a + countL b := by
  unfold faultL at h
  have h1 := faultF_neg _ _ _ h
  obtain ⟨q1, q2⟩ := through a b a.length 0 (by omega) (by omega) h1
  unfold faultL countL
  rw [List.length_append, q1, q2]
  have s1 := faultF_shift a b b.length 0
  have s2 := countF_shift a b b.length 0
  rw [Nat.add_zero] at s1 s2
  rw [s1, s2]
  refine ⟨?_, rfl⟩
  unfold shI
  by_cases hb : 0 ≤ faultF b b.length 0
  · rw [if_pos hb, if_pos hb]
  · rw [if_neg hb, if_neg hb, faultF_neg b b.length 0 (by omega)]

theorem faultF_lt (l : List UInt8) : ∀ f i, faultF l f i < l.length ∨ faultF l f i = -1
  | 0, i => .inr rfl
  | f + 1, i => by
    simp only [faultF]
    by_cases hi : i < l.length
    · rw [if_pos hi]
      by_cases ho : okL (l.drop i) = true
      · rw [if_pos ho]; exact faultF_lt l f _
      · rw [if_neg ho]; left; omega
    · rw [if_neg hi]; exact .inr rfl
theorem countL_le (l : List UInt8) : countL l ≤ l.length := by have := countF_le l l.length 0 (by omega); unfold countL; omega
end Go.Proofs.Ytamohliclidpgab
