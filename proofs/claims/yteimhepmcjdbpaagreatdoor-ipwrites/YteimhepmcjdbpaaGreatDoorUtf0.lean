import Derived.Lib.DecodeN
import Derived.Lib.RuneBytes
import Derived.Laws.Strings
namespace Go.Proofs.YteimhepmcjdbpaaGreatDoor

/-- The byte at a place; 0 beyond the end. -/
def bt (l : List UInt8) (j : Nat) : Nat := (l.getD j 0).toNat
theorem bt_lt (l : List UInt8) (j : Nat) : bt l j < 256 := by unfold bt; exact (l.getD j 0).toNat_lt

/-- How many bytes begin like this first one, and where the second one lies. -/
def rowB (b : Nat) : Nat × Nat × Nat :=
  if b ≤ 127 then (1, 0, 0) else if 194 ≤ b ∧ b ≤ 223 then (2, 128, 191) else if b = 224 then (3, 160, 191) else if 225 ≤ b ∧ b ≤ 236 then (3, 128, 191)
  else if b = 237 then (3, 128, 159) else if 238 ≤ b ∧ b ≤ 239 then (3, 128, 191) else if b = 240 then (4, 144, 191) else if 241 ≤ b ∧ b ≤ 243 then (4, 128, 191)
  else if b = 244 then (4, 128, 143) else (0, 0, 0)

/-- Does the byte at place j, behind the first one, go on as the row asks? -/
def goOn (l : List UInt8) (j : Nat) : Prop :=
  j < (rowB (bt l 0)).1 ∧ j < l.length ∧ (if j = 1 then (rowB (bt l 0)).2.1 else 128) ≤ bt l j ∧ bt l j ≤ (if j = 1 then (rowB (bt l 0)).2.2 else 191)
def goB (l : List UInt8) (j : Nat) : Bool :=
  decide (j < (rowB (bt l 0)).1 ∧ j < l.length ∧ (if j = 1 then (rowB (bt l 0)).2.1 else 128) ≤ bt l j ∧ bt l j ≤ (if j = 1 then (rowB (bt l 0)).2.2 else 191))
theorem goB_iff (l : List UInt8) (j : Nat) : goB l j = true ↔ goOn l j := by unfold goB goOn; exact decide_eq_true_iff
theorem goB_no (l : List UInt8) (j : Nat) : goB l j = false ↔ ¬ goOn l j := by rw [← goB_iff]; exact Bool.eq_false_iff

/-- How many bytes of a text that isn't empty are its row's, one at least. -/
def fit (l : List UInt8) : Nat := if goB l 1 = false then 1 else if goB l 2 = false then 2 else if goB l 3 = false then 3 else 4

theorem rowB_le (b : Nat) : (rowB b).1 ≤ 4 := by unfold rowB; repeat' split <;> try simp
theorem goOn_lt {l : List UInt8} {j : Nat} (h : goOn l j) : j < 4 := by have := rowB_le (bt l 0); unfold goOn at h; omega

theorem fit_ways (l : List UInt8) : (¬ goOn l 1 ∧ fit l = 1) ∨ (goOn l 1 ∧ ¬ goOn l 2 ∧ fit l = 2) ∨ (goOn l 1 ∧ goOn l 2 ∧ ¬ goOn l 3 ∧ fit l = 3) ∨ (goOn l 1 ∧ goOn l 2 ∧ goOn l 3 ∧ fit l = 4) := by
  unfold fit
  rw [← goB_iff, ← goB_iff, ← goB_iff]
  cases goB l 1 <;> cases goB l 2 <;> cases goB l 3 <;> simp

theorem fit_spec (l : List UInt8) : 1 ≤ fit l ∧ fit l ≤ 4 ∧ (∀ j, 1 ≤ j → j < fit l → goOn l j) ∧ ¬ goOn l (fit l) := by
  have h4 : ¬ goOn l 4 := fun h => by have := goOn_lt h; omega
  rcases fit_ways l with ⟨g, e⟩ | ⟨g1, g, e⟩ | ⟨g1, g2, g, e⟩ | ⟨g1, g2, g3, e⟩
  · rw [e]; exact ⟨by omega, by omega, fun j a b => by omega, g⟩
  · rw [e]; refine ⟨by omega, by omega, fun j a b => ?_, g⟩
    have c : j = 1 := by omega
    subst c; exact g1
  · rw [e]; refine ⟨by omega, by omega, fun j a b => ?_, g⟩
    have c : j = 1 ∨ j = 2 := by omega
    rcases c with rfl | rfl
    · exact g1
    · exact g2
  · rw [e]; refine ⟨by omega, by omega, fun j a b => ?_, h4⟩
    have c : j = 1 ∨ j = 2 ∨ j = 3 := by omega
    rcases c with rfl | rfl | rfl
    · exact g1
    · exact g2
    · exact g3

theorem fit_eq (l : List UInt8) (n : Nat) (h1 : 1 ≤ n) (h : ∀ j, 1 ≤ j → j < n → goOn l j) (hn : ¬ goOn l n) : fit l = n := by
  obtain ⟨f1, f4, fg, fn⟩ := fit_spec l
  rcases Nat.lt_trichotomy (fit l) n with hlt | heq | hgt
  · exact absurd (h _ f1 hlt) fn
  · exact heq
  · exact absurd (fg n h1 hgt) hn

/-- Does a scalar value begin the text? -/
def okL (l : List UInt8) : Bool := decide (l ≠ []) && decide ((rowB (bt l 0)).1 = fit l)

/-- What it is. -/
def valL (l : List UInt8) : Nat :=
  if (rowB (bt l 0)).1 = 1 then bt l 0 else if (rowB (bt l 0)).1 = 2 then (bt l 0 - 192) * 64 + (bt l 1 - 128)
  else if (rowB (bt l 0)).1 = 3 then ((bt l 0 - 224) * 64 + (bt l 1 - 128)) * 64 + (bt l 2 - 128)
  else (((bt l 0 - 240) * 64 + (bt l 1 - 128)) * 64 + (bt l 2 - 128)) * 64 + (bt l 3 - 128)

def decR (l : List UInt8) : Nat := if okL l then valL l else 0
def decN (l : List UInt8) : Nat := if l = [] then 0 else fit l

theorem get!_bt (s : ByteArray) (i k : Nat) : (s.get! (i + k)).toNat = bt (s.data.toList.drop i) k := by
  unfold bt
  rw [List.getD_eq_getElem?_getD, List.getElem?_drop]
  by_cases h : i + k < s.size
  · rw [List.getElem?_eq_getElem (by simpa using h)]
    simp [ByteArray.get!, getElem!_pos, h]
  · rw [List.getElem?_eq_none (by simp; omega)]
    have : s.get! (i + k) = default := by simp [ByteArray.get!, getElem!_neg, h]
    rw [this]; rfl

theorem rowB_all : ∀ b : Fin 256, (b.1 ≤ 127 ∧ rowB b.1 = (1, 0, 0)) ∨ (194 ≤ b.1 ∧ b.1 ≤ 223 ∧ rowB b.1 = (2, 128, 191)) ∨ (b.1 = 224 ∧ rowB b.1 = (3, 160, 191)) ∨ (225 ≤ b.1 ∧ b.1 ≤ 236 ∧ rowB b.1 = (3, 128, 191)) ∨
    (b.1 = 237 ∧ rowB b.1 = (3, 128, 159)) ∨ (238 ≤ b.1 ∧ b.1 ≤ 239 ∧ rowB b.1 = (3, 128, 191)) ∨ (b.1 = 240 ∧ rowB b.1 = (4, 144, 191)) ∨ (241 ≤ b.1 ∧ b.1 ≤ 243 ∧ rowB b.1 = (4, 128, 191)) ∨
    (b.1 = 244 ∧ rowB b.1 = (4, 128, 143)) ∨ (((128 ≤ b.1 ∧ b.1 ≤ 193) ∨ (245 ≤ b.1 ∧ b.1 ≤ 255)) ∧ rowB b.1 = (0, 0, 0)) := by decide +kernel
theorem rowB_cases (b : Nat) (hb : b < 256) :
    (b ≤ 127 ∧ rowB b = (1, 0, 0)) ∨ (194 ≤ b ∧ b ≤ 223 ∧ rowB b = (2, 128, 191)) ∨ (b = 224 ∧ rowB b = (3, 160, 191)) ∨ (225 ≤ b ∧ b ≤ 236 ∧ rowB b = (3, 128, 191)) ∨
    (b = 237 ∧ rowB b = (3, 128, 159)) ∨ (238 ≤ b ∧ b ≤ 239 ∧ rowB b = (3, 128, 191)) ∨ (b = 240 ∧ rowB b = (4, 144, 191)) ∨ (241 ≤ b ∧ b ≤ 243 ∧ rowB b = (4, 128, 191)) ∨
    (b = 244 ∧ rowB b = (4, 128, 143)) ∨ (((128 ≤ b ∧ b ≤ 193) ∨ (245 ≤ b ∧ b ≤ 255)) ∧ rowB b = (0, 0, 0)) := rowB_all ⟨b, hb⟩

theorem okL_iff (l : List UInt8) : okL l = true ↔ l ≠ [] ∧ (rowB (bt l 0)).1 = fit l := by unfold okL; simp

set_option maxRecDepth 100000 in
set_option maxHeartbeats 4000000 in
theorem decodeN_eq (n b0 b1 b2 b3 : Nat) (l : List UInt8) (hn : l.length = n) (h0 : bt l 0 = b0) (h1 : bt l 1 = b1) (h2 : bt l 2 = b2) (h3 : bt l 3 = b3) (hp : 1 ≤ n) :
    Lib.decodeN n b0 b1 b2 b3 = if okL l then (valL l, fit l) else (65533, 1) := by
  have hb0 : b0 < 256 := h0 ▸ bt_lt l 0
  have hb1 : b1 < 256 := h1 ▸ bt_lt l 1
  have hb2 : b2 < 256 := h2 ▸ bt_lt l 2
  have hb3 : b3 < 256 := h3 ▸ bt_lt l 3
  have hne : l ≠ [] := by intro e; subst e; simp at hn; omega
  have hok : okL l = decide ((rowB b0).1 = fit l) := by unfold okL; rw [h0]; simp [hne]
  have g1 : goB l 1 = false ↔ ¬ (1 < (rowB b0).1 ∧ 1 < n ∧ (rowB b0).2.1 ≤ b1 ∧ b1 ≤ (rowB b0).2.2) := by rw [goB_no]; unfold goOn; rw [h0, h1, hn]; simp
  have g2 : goB l 2 = false ↔ ¬ (2 < (rowB b0).1 ∧ 2 < n ∧ 128 ≤ b2 ∧ b2 ≤ 191) := by rw [goB_no]; unfold goOn; rw [h0, h2, hn]; simp
  have g3 : goB l 3 = false ↔ ¬ (3 < (rowB b0).1 ∧ 3 < n ∧ 128 ≤ b3 ∧ b3 ≤ 191) := by rw [goB_no]; unfold goOn; rw [h0, h3, hn]; simp
  rw [hok]
  unfold valL fit
  simp only [h0, h1, h2, h3, g1, g2, g3]
  clear g1 g2 g3 hok hne h0 h1 h2 h3
  rcases rowB_cases b0 hb0 with ⟨c, e⟩ | ⟨c, c', e⟩ | ⟨c, e⟩ | ⟨c, c', e⟩ | ⟨c, e⟩ | ⟨c, c', e⟩ | ⟨c, e⟩ | ⟨c, c', e⟩ | ⟨c, e⟩ | ⟨c, e⟩
  all_goals
    rw [e]
    unfold Lib.decodeN
    clear e
    simp only [decide_eq_true_eq, if_true, if_false, true_and, false_and, not_false_eq_true, Nat.reduceLT, Nat.reduceEqDiff]
    repeat' split
  all_goals first | (exfalso; omega) | (apply Prod.ext <;> simp only <;> omega)

/-- The model's own reading of a text, by the table. -/
theorem decode_eq (s : ByteArray) (i : Nat) (h : i < s.size) : Utf8.decode s i = if okL (s.data.toList.drop i) then (valL (s.data.toList.drop i), fit (s.data.toList.drop i)) else (65533, 1) := by
  rw [Lib.decode_at]
  exact decodeN_eq _ _ _ _ _ _ (by simp) (get!_bt s i 0).symm (get!_bt s i 1).symm (get!_bt s i 2).symm (get!_bt s i 3).symm (by omega)
end Go.Proofs.YteimhepmcjdbpaaGreatDoor
