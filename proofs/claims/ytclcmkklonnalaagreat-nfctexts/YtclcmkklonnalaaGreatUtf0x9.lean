import Derived.Lib.DecodeN
import Derived.Lib.RuneBytes
import Derived.Laws.Strings
import Derived.Test.YtclcmkklonnalaaGreatBase
import Derived.Deep.QuietTactic
import Derived.BigQuiet
import Derived.Lib.OthersKept
import Derived.BigCall
import Derived.Deep.MidRow
import Derived.Deep.WholeRow
import Derived.Deep.RegionWith
namespace Go.Proofs.YtclcmkklonnalaaGreat.Ut

/-- The byte at a place; 0 beyond the end. -/
def bt (l : List UInt8) (j : Nat) : Nat := (l.getD j 0).toNat
theorem bt_lt (l : List UInt8) (j : Nat) : bt l j < 256 := by unfold bt; exact (l.getD j 0).toNat_lt

/-- How many bytes begin like this first one, and where the second one lies. -/
def rowB (b : Nat) : Nat × Nat × Nat :=
  if b ≤ 127 then (1, 0, 0) else if 194 ≤ b ∧ b ≤ 223 then (2, 128, 191) else if b = 224 then (3, 160, 191) else if 225 ≤ b ∧ b ≤ 236 then (3, 128, 191)
  else if b = 237 then (3, 128, 159) else if 238 ≤ b ∧ b ≤ 239 then (3, 128, 191) else if b = 240 then (4, 144, 191) else if 241 ≤ b ∧ b ≤ 243 then (4, 128, 191)
  else if b = 244 then (4, 128, 143) else (0, 0, 0)

/-- Does the byte at place j, behind the first one, go on as the row asks? -/
def goOn (l : List UInt8) (j : Nat) : Prop :=
  j < (rowB (bt l 0)).1 ∧ j < l.length ∧ (if j = 1 then (rowB (bt l 0)).2.1 else 128) ≤ bt l j ∧ bt l j ≤ (if j = 1 then (rowB (bt l 0)).2.2 else 191)
def goB (l : List UInt8) (j : Nat) : Bool :=
  decide (j < (rowB (bt l 0)).1 ∧ j < l.length ∧ (if j = 1 then (rowB (bt l 0)).2.1 else 128) ≤ bt l j ∧ bt l j ≤ (if j = 1 then (rowB (bt l 0)).2.2 else 191))
theorem goB_iff (l : List UInt8) (j : Nat) : goB l j = true ↔ goOn l j := by unfold goB goOn; exact decide_eq_true_iff
theorem goB_no (l : List UInt8) (j : Nat) : goB l j = false ↔ ¬ goOn l j := by rw [← goB_iff]; exact Bool.eq_false_iff

/-- How many bytes of a text that isn't empty are its row's, one at least. -/
def fit (l : List UInt8) : Nat := if goB l 1 = false then 1 else if goB l 2 = false then 2 else if goB l 3 = false then 3 else 4

theorem rowB_le (b : Nat) : (rowB b).1 ≤ 4 := by unfold rowB; repeat' split <;> try simp
theorem goOn_lt {l : List UInt8} {j : Nat} (h : goOn l j) : j < 4 := by have := rowB_le (bt l 0); unfold goOn at h; omega

theorem fit_ways (l : List UInt8) : (¬ goOn l 1 ∧ fit l = 1) ∨ (goOn l 1 ∧ ¬ goOn l 2 ∧ fit l = 2) ∨ (goOn l 1 ∧ goOn l 2 ∧ ¬ goOn l 3 ∧ fit l = 3) ∨ (goOn l 1 ∧ goOn l 2 ∧ goOn l 3 ∧ fit l = 4) := by
  unfold fit
  rw [← goB_iff, ← goB_iff, ← goB_iff]
  cases goB l 1 <;> cases goB l 2 <;> cases goB l 3 <;> simp

theorem fit_spec (l : List UInt8) : 1 ≤ fit l ∧ fit l ≤ 4 ∧ (∀ j, 1 ≤ j → j < fit l → goOn l j) ∧ ¬ goOn l (fit l) := by
  have h4 : ¬ goOn l 4 := fun h => by have := goOn_lt h; omega
  rcases fit_ways l with ⟨g, e⟩ | ⟨g1, g, e⟩ | ⟨g1, g2, g, e⟩ | ⟨g1, g2, g3, e⟩
  · rw [e]; exact ⟨by omega, by omega, fun j a b => by omega, g⟩
  · rw [e]; refine ⟨by omega, by omega, fun j a b => ?_, g⟩
    have c : j = 1 := by omega
    subst c; exact g1
  · rw [e]; refine ⟨by omega, by omega, fun j a b => ?_, g⟩
    have c : j = 1 ∨ j = 2 := by omega
    rcases c with rfl | rfl
    · exact g1
    · exact g2
  · rw [e]; refine ⟨by omega, by omega, fun j a b => ?_, h4⟩
    have c : j = 1 ∨ j = 2 ∨ j = 3 := by omega
    rcases c with rfl | rfl | rfl
    · exact g1
    · exact g2
    · exact g3

theorem fit_eq (l : List UInt8) (n : Nat) (h1 : 1 ≤ n) (h : ∀ j, 1 ≤ j → j < n → goOn l j) (hn : ¬ goOn l n) : fit l = n := by
  obtain ⟨f1, f4, fg, fn⟩ := fit_spec l
  rcases Nat.lt_trichotomy (fit l) n with hlt | heq | hgt
  · exact absurd (h _ f1 hlt) fn
  · exact heq
  · exact absurd (fg n h1 hgt) hn

/-- Does a scalar value begin the text? -/
def okL (l : List UInt8) : Bool := decide (l ≠ []) && decide ((rowB (bt l 0)).1 = fit l)

/-- What it is. -/
def valL (l : List UInt8) : Nat :=
  if (rowB (bt l 0)).1 = 1 then bt l 0 else if (rowB (bt l 0)).1 = 2 then (bt l 0 - 192) * 64 + (bt l 1 - 128)
  else if (rowB (bt l 0)).1 = 3 then ((bt l 0 - 224) * 64 + (bt l 1 - 128)) * 64 + (bt l 2 - 128)
  else (((bt l 0 - 240) * 64 + (bt l 1 - 128)) * 64 + (bt l 2 - 128)) * 64 + (bt l 3 - 128)

def decR (l : List UInt8) : Nat := if okL l then valL l else 0
def decN (l : List UInt8) : Nat := if l = [] then 0 else fit l

theorem get!_bt (s : ByteArray) (i k : Nat) : (s.get! (i + k)).toNat = bt (s.data.toList.drop i) k := by
  unfold bt
  rw [List.getD_eq_getElem?_getD, List.getElem?_drop]
  by_cases h : i + k < s.size
  · rw [List.getElem?_eq_getElem (by simpa using h)]
    simp [ByteArray.get!, getElem!_pos, h]
  · rw [List.getElem?_eq_none (by simp; omega)]
    have : s.get! (i + k) = default := by simp [ByteArray.get!, getElem!_neg, h]
    rw [this]; rfl

theorem rowB_all : ∀ b : Fin 256, (b.1 ≤ 127 ∧ rowB b.1 = (1, 0, 0)) ∨ (194 ≤ b.1 ∧ b.1 ≤ 223 ∧ rowB b.1 = (2, 128, 191)) ∨ (b.1 = 224 ∧ rowB b.1 = (3, 160, 191)) ∨ (225 ≤ b.1 ∧ b.1 ≤ 236 ∧ rowB b.1 = (3, 128, 191)) ∨
    (b.1 = 237 ∧ rowB b.1 = (3, 128, 159)) ∨ (238 ≤ b.1 ∧ b.1 ≤ 239 ∧ rowB b.1 = (3, 128, 191)) ∨ (b.1 = 240 ∧ rowB b.1 = (4, 144, 191)) ∨ (241 ≤ b.1 ∧ b.1 ≤ 243 ∧ rowB b.1 = (4, 128, 191)) ∨
    (b.1 = 244 ∧ rowB b.1 = (4, 128, 143)) ∨ (((128 ≤ b.1 ∧ b.1 ≤ 193) ∨ (245 ≤ b.1 ∧ b.1 ≤ 255)) ∧ rowB b.1 = (0, 0, 0)) := by decide +kernel
theorem rowB_cases (b : Nat) (hb : b < 256) :
    (b ≤ 127 ∧ rowB b = (1, 0, 0)) ∨ (194 ≤ b ∧ b ≤ 223 ∧ rowB b = (2, 128, 191)) ∨ (b = 224 ∧ rowB b = (3, 160, 191)) ∨ (225 ≤ b ∧ b ≤ 236 ∧ rowB b = (3, 128, 191)) ∨
    (b = 237 ∧ rowB b = (3, 128, 159)) ∨ (238 ≤ b ∧ b ≤ 239 ∧ rowB b = (3, 128, 191)) ∨ (b = 240 ∧ rowB b = (4, 144, 191)) ∨ (241 ≤ b ∧ b ≤ 243 ∧ rowB b = (4, 128, 191)) ∨
    (b = 244 ∧ rowB b = (4, 128, 143)) ∨ (((128 ≤ b ∧ b ≤ 193) ∨ (245 ≤ b ∧ b ≤ 255)) ∧ rowB b = (0, 0, 0)) := rowB_all ⟨b, hb⟩

theorem okL_iff (l : List UInt8) : okL l = true ↔ l ≠ [] ∧ (rowB (bt l 0)).1 = fit l := by unfold okL; simp

set_option maxRecDepth 100000 in
set_option maxHeartbeats 4000000 in
theorem decodeN_eq (n b0 b1 b2 b3 : Nat) (l : List UInt8) (hn : l.length = n) (h0 : bt l 0 = b0) (h1 : bt l 1 = b1) (h2 : bt l 2 = b2) (h3 : bt l 3 = b3) (hp : 1 ≤ n) :
    Lib.decodeN n b0 b1 b2 b3 = if okL l then (valL l, fit l) else (65533, 1) := by
  have hb0 : b0 < 256 := h0 ▸ bt_lt l 0
  have hb1 : b1 < 256 := h1 ▸ bt_lt l 1
  have hb2 : b2 < 256 := h2 ▸ bt_lt l 2
  have hb3 : b3 < 256 := h3 ▸ bt_lt l 3
  have hne : l ≠ [] := by intro e; subst e; simp at hn; omega
  have hok : okL l = decide ((rowB b0).1 = fit l) := by unfold okL; rw [h0]; simp [hne]
  have g1 : goB l 1 = false ↔ ¬ (1 < (rowB b0).1 ∧ 1 < n ∧ (rowB b0).2.1 ≤ b1 ∧ b1 ≤ (rowB b0).2.2) := by rw [goB_no]; unfold goOn; rw [h0, h1, hn]; simp
  have g2 : goB l 2 = false ↔ ¬ (2 < (rowB b0).1 ∧ 2 < n ∧ 128 ≤ b2 ∧ b2 ≤ 191) := by rw [goB_no]; unfold goOn; rw [h0, h2, hn]; simp
  have g3 : goB l 3 = false ↔ ¬ (3 < (rowB b0).1 ∧ 3 < n ∧ 128 ≤ b3 ∧ b3 ≤ 191) := by rw [goB_no]; unfold goOn; rw [h0, h3, hn]; simp
  rw [hok]
  unfold valL fit
  simp only [h0, h1, h2, h3, g1, g2, g3]
  clear g1 g2 g3 hok hne h0 h1 h2 h3
  rcases rowB_cases b0 hb0 with ⟨c, e⟩ | ⟨c, c', e⟩ | ⟨c, e⟩ | ⟨c, c', e⟩ | ⟨c, e⟩ | ⟨c, c', e⟩ | ⟨c, e⟩ | ⟨c, c', e⟩ | ⟨c, e⟩ | ⟨c, e⟩
  all_goals
    rw [e]
    unfold Lib.decodeN
    clear e
    simp only [decide_eq_true_eq, if_true, if_false, true_and, false_and, not_false_eq_true, Nat.reduceLT, Nat.reduceEqDiff]
    repeat' split
  all_goals first | (exfalso; omega) | (apply Prod.ext <;> simp only <;> omega)

/-- The model's own reading of a text, by the table. -/
theorem decode_eq (s : ByteArray) (i : Nat) (h : i < s.size) : Utf8.decode s i = if okL (s.data.toList.drop i) then (valL (s.data.toList.drop i), fit (s.data.toList.drop i)) else (65533, 1) := by
  rw [Lib.decode_at]
  exact decodeN_eq _ _ _ _ _ _ (by simp) (get!_bt s i 0).symm (get!_bt s i 1).symm (get!_bt s i 2).symm (get!_bt s i 3).symm (by omega)
end Go.Proofs.YtclcmkklonnalaaGreat.Ut

namespace Go.Proofs.YtclcmkklonnalaaGreat.Ut
open Go.RowKit

/-- Is a number a scalar value? -/
def scB (r : Int) : Bool := decide ((0 ≤ r ∧ r < 55296) ∨ (57343 < r ∧ r ≤ 1114111))

theorem sc_any (r : Int) (w : World) : Calls Tryz.prog 81 #[.int .i32 r] w fun e w' => e = .returned (.bool (scB r)) ∧ w' = w := by
  have C : r < 0 ∨ (0 ≤ r ∧ r < 55296) ∨ (55296 ≤ r ∧ r ≤ 57343) ∨ (57343 < r ∧ r ≤ 1114111) ∨ 1114111 < r := by omega
  rcases C with h | ⟨h, h'⟩ | ⟨h, h'⟩ | ⟨h, h'⟩ | h
  all_goals
    go_enter Tryz.func81, Tryz.ntmps81
    go_wp2
    go_ret
    exact ⟨ret_bool (by unfold scB; first | (rw [eq_comm, decide_eq_true_iff]; omega) | (rw [eq_comm, decide_eq_false_iff_not]; omega) | (rw [Bool.eq_iff_iff]; simp; omega)), rfl⟩

theorem rsc_any (r : Int) (w : World) : Calls Tryz.prog 87 #[.int .i64 r] w fun e w' => e = .returned (.bool (scB r)) ∧ w' = w := by
  have C : r < 0 ∨ (0 ≤ r ∧ r < 55296) ∨ (55296 ≤ r ∧ r ≤ 57343) ∨ (57343 < r ∧ r ≤ 1114111) ∨ 1114111 < r := by omega
  rcases C with h | ⟨h, h'⟩ | ⟨h, h'⟩ | ⟨h, h'⟩ | h
  all_goals
    go_enter Tryz.func87, Tryz.ntmps87
    go_wp2
    go_ret
    exact ⟨ret_bool (by unfold scB; first | (rw [eq_comm, decide_eq_true_iff]; omega) | (rw [eq_comm, decide_eq_false_iff_not]; omega) | (rw [Bool.eq_iff_iff]; simp; omega)), rfl⟩

/-- A scalar value's bytes; of other numbers none. -/
def encS (r : Int) : ByteArray := if scB r then Utf8.encode r else ⟨#[]⟩


/-- Do the bytes of FFFD begin a text? -/
def signB (l : List UInt8) : Bool := l.take 3 == [239, 191, 189]

theorem fault_no (s : ByteArray) (i r : Int) (w : World) (h : r ≠ 65533) : Calls Tryz.prog 80 #[.string s, .int .i64 i, .int .i32 r] w fun e w' => e = .returned (.bool false) ∧ w' = w := by
  have h' : (r == 65533) = false := by simpa using h
  clear h
  go_enter Tryz.func80, Tryz.ntmps80
  go_wp2
  go_ret
  exact ⟨rfl, rfl⟩

theorem fault_is (s : ByteArray) (i : Nat) (w : World) (hi : i ≤ s.size) : Calls Tryz.prog 80 #[.string s, .int .i64 i, .int .i32 65533] w fun e w' => e = .returned (.bool (!signB (s.data.toList.drop i))) ∧ w' = w := by
  by_cases h3 : 3 ≤ s.size - i
  · have H : Hid (((s.extract i s.size).extract 0 3).toList = (s.data.toList.drop i).take 3) := by
      show _ = _
      rw [ByteArray.toList_eq, ext_list, ext_end]; rfl
    go_enter Tryz.func80, Tryz.ntmps80
    go_wp2
    go_ret
    exact ⟨ret_bool (by show (!(_ == _)) = (!signB _); unfold signB; rw [H.out]), rfl⟩
  · have H : Hid (signB (s.data.toList.drop i) = false) := by
      show (_ == _) = _
      rw [beq_eq_false_iff_ne]
      intro e
      have e2 := congrArg List.length e
      simp at e2; omega
    go_enter Tryz.func80, Tryz.ntmps80
    go_wp2
    go_ret
    exact ⟨ret_bool (by rw [H.out]; rfl), rfl⟩

/-- The row as the program keeps it. -/
def rowV (b : Nat) : Value := .agg #[.int .i64 (rowB b).1, .int .u8 (rowB b).2.1, .int .u8 (rowB b).2.2]


theorem bt_at (s : ByteArray) (k : Nat) (h : k < s.size) : bt s.data.toList k = s[k].toNat := by
  unfold bt
  rw [List.getD_eq_getElem?_getD, List.getElem?_eq_getElem (by simpa using h)]; rfl

end Go.Proofs.YtclcmkklonnalaaGreat.Ut

namespace Go.Proofs.YtclcmkklonnalaaGreat.Ut
open Go.RowKit

theorem ofNat_bt (l : List UInt8) (j : Nat) : UInt8.ofNat (bt l j) = l.getD j 0 := by unfold bt; exact UInt8.ofNat_toNat

theorem take_bt (l : List UInt8) : ∀ n, n ≤ l.length → l.take n = (List.range n).map fun j => l.getD j 0 := by
  intro n hn
  apply List.ext_getElem
  · simp; omega
  · intro i h1 h2
    simp at h1
    have h3 : i < l.length := by omega
    simp [List.getD_eq_getElem?_getD, List.getElem?_eq_getElem h3]

theorem sign_ok (l : List UInt8) (h : signB l = true) : okL l = true := by
  unfold signB at h
  have e : l.take 3 = [239, 191, 189] := by simpa using h
  have hl : 3 ≤ l.length := by have := congrArg List.length e; simp at this; omega
  rw [take_bt l 3 hl] at e
  simp only [List.range, List.range.loop, List.map_cons, List.map_nil, List.cons.injEq, and_true] at e
  obtain ⟨e0, e1, e2⟩ := e
  have b0 : bt l 0 = 239 := by unfold bt; rw [e0]; rfl
  have b1 : bt l 1 = 191 := by unfold bt; rw [e1]; rfl
  have b2 : bt l 2 = 189 := by unfold bt; rw [e2]; rfl
  rw [okL_iff]
  refine ⟨by intro e; subst e; simp at hl, ?_⟩
  have r : rowB (bt l 0) = (3, 128, 191) := by rw [b0]; rfl
  rw [r]
  refine (fit_eq l 3 (by omega) (fun j a b => ?_) ?_).symm
  · have c : j = 1 ∨ j = 2 := by omega
    rcases c with rfl | rfl
    · unfold goOn; rw [r, b1]; simp; omega
    · unfold goOn; rw [r, b2]; simp; omega
  · unfold goOn; rw [r]; simp

set_option maxHeartbeats 2000000 in
theorem ok_facts (l : List UInt8) (h : okL l = true) : scB (valL l) = true ∧ (Utf8.encode (valL l)).data.toList = l.take (fit l) ∧ fit l ≤ l.length ∧ (valL l = 65533 → signB l = true) := by
  obtain ⟨hne, hf⟩ := (okL_iff l).1 h
  obtain ⟨f1, f4, fg, fn⟩ := fit_spec l
  have hlen : 1 ≤ l.length := by cases l with | nil => exact absurd rfl hne | cons a b => simp
  have hb1 := bt_lt l 1
  have hb2 := bt_lt l 2
  have hb3 := bt_lt l 3
  have g1 : goOn l 1 → 1 < l.length ∧ (rowB (bt l 0)).2.1 ≤ bt l 1 ∧ bt l 1 ≤ (rowB (bt l 0)).2.2 := fun g => by unfold goOn at g; simpa using g.2
  have g2 : goOn l 2 → 2 < l.length ∧ 128 ≤ bt l 2 ∧ bt l 2 ≤ 191 := fun g => by unfold goOn at g; simpa using g.2
  have g3 : goOn l 3 → 3 < l.length ∧ 128 ≤ bt l 3 ∧ bt l 3 ≤ 191 := fun g => by unfold goOn at g; simpa using g.2
  have enc : ∀ c : Nat, scB c = true → (Utf8.encode c).data.toList = if c < 128 then [UInt8.ofNat c] else if c < 2048 then [UInt8.ofNat (192 + c / 64), UInt8.ofNat (128 + c % 64)] else if c < 65536 then [UInt8.ofNat (224 + c / 4096), UInt8.ofNat (128 + c / 64 % 64), UInt8.ofNat (128 + c % 64)] else [UInt8.ofNat (240 + c / 262144), UInt8.ofNat (128 + c / 4096 % 64), UInt8.ofNat (128 + c / 64 % 64), UInt8.ofNat (128 + c % 64)] := by
    intro c hc
    have hv : Utf8.valid (c : Int) = true := by
      unfold scB at hc; unfold Utf8.valid
      have := of_decide_eq_true hc
      simp; omega
    unfold Utf8.encode
    simp only [hv, if_true, Int.toNat_natCast]
    repeat' split
    all_goals first | rfl | omega
  have fin : ∀ (sz v : Nat), fit l = sz → valL l = v → sz ≤ l.length → scB v = true → (Utf8.encode v).data.toList = (List.range sz).map (fun j => UInt8.ofNat (bt l j)) → (v = 65533 → bt l 0 = 239 ∧ bt l 1 = 191 ∧ bt l 2 = 189 ∧ 3 ≤ l.length) →
      scB (valL l) = true ∧ (Utf8.encode (valL l)).data.toList = l.take (fit l) ∧ fit l ≤ l.length ∧ (valL l = 65533 → signB l = true) := by
    intro sz v e1 e2 e3 e4 e5 e6
    rw [e1, e2]
    refine ⟨e4, ?_, e3, fun hv => ?_⟩
    · rw [e5, take_bt l sz e3]; exact List.map_congr_left fun j _ => ofNat_bt l j
    · obtain ⟨a, b, c, d⟩ := e6 hv
      unfold signB
      rw [take_bt l 3 d]
      simp only [List.range, List.range.loop, List.map_cons, List.map_nil]
      rw [← ofNat_bt, ← ofNat_bt, ← ofNat_bt, a, b, c]; rfl
  have hsc : ∀ c : Nat, (c < 55296 ∨ (57343 < c ∧ c ≤ 1114111)) → scB c = true := fun c hc => by unfold scB; rw [decide_eq_true_iff]; omega
  rcases rowB_cases (bt l 0) (bt_lt l 0) with ⟨c, e⟩ | ⟨c, c', e⟩ | ⟨c, e⟩ | ⟨c, c', e⟩ | ⟨c, e⟩ | ⟨c, c', e⟩ | ⟨c, e⟩ | ⟨c, c', e⟩ | ⟨c, e⟩ | ⟨c, e⟩
  all_goals
    rw [e] at hf g1
    simp only at hf g1
  · have hv : valL l = bt l 0 := by unfold valL; rw [e]; rfl
    have hs := hsc (bt l 0) (by omega)
    refine fin 1 _ hf.symm hv (by omega) hs ?_ (by omega)
    rw [enc _ hs, if_pos (by omega)]; rfl
  · have hv : valL l = (bt l 0 - 192) * 64 + (bt l 1 - 128) := by unfold valL; rw [e]; rfl
    have k1 := g1 (fg 1 (by omega) (by omega))
    have hs := hsc ((bt l 0 - 192) * 64 + (bt l 1 - 128)) (by omega)
    refine fin 2 _ hf.symm hv (by omega) hs ?_ (by omega)
    rw [enc _ hs, if_neg (by omega), if_pos (by omega)]
    simp only [List.range, List.range.loop, List.map_cons, List.map_nil]
    rw [show 192 + ((bt l 0 - 192) * 64 + (bt l 1 - 128)) / 64 = bt l 0 by omega, show 128 + ((bt l 0 - 192) * 64 + (bt l 1 - 128)) % 64 = bt l 1 by omega]
  iterate 4
    · have hv : valL l = ((bt l 0 - 224) * 64 + (bt l 1 - 128)) * 64 + (bt l 2 - 128) := by unfold valL; rw [e]; rfl
      have k1 := g1 (fg 1 (by omega) (by omega))
      have k2 := g2 (fg 2 (by omega) (by omega))
      have hs := hsc (((bt l 0 - 224) * 64 + (bt l 1 - 128)) * 64 + (bt l 2 - 128)) (by omega)
      refine fin 3 _ hf.symm hv (by omega) hs ?_ (by omega)
      rw [enc _ hs, if_neg (by omega), if_neg (by omega), if_pos (by omega)]
      simp only [List.range, List.range.loop, List.map_cons, List.map_nil]
      rw [show 224 + (((bt l 0 - 224) * 64 + (bt l 1 - 128)) * 64 + (bt l 2 - 128)) / 4096 = bt l 0 by omega, show 128 + (((bt l 0 - 224) * 64 + (bt l 1 - 128)) * 64 + (bt l 2 - 128)) / 64 % 64 = bt l 1 by omega, show 128 + (((bt l 0 - 224) * 64 + (bt l 1 - 128)) * 64 + (bt l 2 - 128)) % 64 = bt l 2 by omega]
  iterate 3
    · have hv : valL l = (((bt l 0 - 240) * 64 + (bt l 1 - 128)) * 64 + (bt l 2 - 128)) * 64 + (bt l 3 - 128) := by unfold valL; rw [e]; rfl
      have k1 := g1 (fg 1 (by omega) (by omega))
      have k2 := g2 (fg 2 (by omega) (by omega))
      have k3 := g3 (fg 3 (by omega) (by omega))
      have hs := hsc ((((bt l 0 - 240) * 64 + (bt l 1 - 128)) * 64 + (bt l 2 - 128)) * 64 + (bt l 3 - 128)) (by omega)
      refine fin 4 _ hf.symm hv (by omega) hs ?_ (by omega)
      rw [enc _ hs, if_neg (by omega), if_neg (by omega), if_neg (by omega)]
      simp only [List.range, List.range.loop, List.map_cons, List.map_nil]
      rw [show 240 + ((((bt l 0 - 240) * 64 + (bt l 1 - 128)) * 64 + (bt l 2 - 128)) * 64 + (bt l 3 - 128)) / 262144 = bt l 0 by omega, show 128 + ((((bt l 0 - 240) * 64 + (bt l 1 - 128)) * 64 + (bt l 2 - 128)) * 64 + (bt l 3 - 128)) / 4096 % 64 = bt l 1 by omega, show 128 + ((((bt l 0 - 240) * 64 + (bt l 1 - 128)) * 64 + (bt l 2 - 128)) * 64 + (bt l 3 - 128)) / 64 % 64 = bt l 2 by omega, show 128 + ((((bt l 0 - 240) * 64 + (bt l 1 - 128)) * 64 + (bt l 2 - 128)) * 64 + (bt l 3 - 128)) % 64 = bt l 3 by omega]
  · omega
end Go.Proofs.YtclcmkklonnalaaGreat.Ut

namespace Go.Proofs.YtclcmkklonnalaaGreat.Ut
open Go.RowKit

theorem fit_le (l : List UInt8) (h : l ≠ []) : fit l ≤ l.length := by
  obtain ⟨f1, f4, fg, fn⟩ := fit_spec l
  by_cases h1 : fit l = 1
  · rw [h1]; cases l with | nil => exact absurd rfl h | cons a b => simp
  · have g := fg (fit l - 1) (by omega) (by omega)
    unfold goOn at g; omega

theorem drop_ne (s : ByteArray) (i : Nat) (h : i < s.size) : s.data.toList.drop i ≠ [] := by
  intro e; have := congrArg List.length e; simp at this; omega

theorem fault_at (s : ByteArray) (i : Nat) (w : World) (h : i < s.size) :
    Calls Tryz.prog 80 #[.string s, .int .i64 i, .int .i32 ((Utf8.decode s i).1 : Nat)] w fun e w' => e = .returned (.bool (!okL (s.data.toList.drop i))) ∧ w' = w := by
  rw [decode_eq s i h]
  by_cases ho : okL (s.data.toList.drop i) = true
  · obtain ⟨_, _, _, hsg⟩ := ok_facts _ ho
    rw [if_pos ho, ho]
    by_cases hv : valL (s.data.toList.drop i) = 65533
    · have := fault_is s i w (by omega)
      rw [hsg hv] at this
      rw [hv]; exact this
    · exact fault_no s i _ w (by simp only; omega)
  · have ho' : okL (s.data.toList.drop i) = false := by simpa using ho
    have hs : signB (s.data.toList.drop i) = false := by
      cases e : signB (s.data.toList.drop i) with
      | false => rfl
      | true => exact absurd (sign_ok _ e) ho
    rw [if_neg ho, ho']
    have := fault_is s i w (by omega)
    rw [hs] at this
    exact this

theorem ret_three {a b c d e f : Value} (h : a = b) (h' : c = d) (h'' : e = f) : Ending.returned (.tuple #[a, c, e]) = .returned (.tuple #[b, d, f]) := by rw [h, h', h'']

theorem encS_size (l : List UInt8) (h : okL l = true) : (encS (valL l)).size = fit l := by
  obtain ⟨a, b, c, _⟩ := ok_facts l h
  unfold encS; rw [if_pos a]
  generalize Utf8.encode (valL l) = x at *
  have := congrArg List.length b
  rw [len_size, List.length_take] at this
  omega


/-- The first place from 'at' on at which no scalar value begins; -1: there is none. -/
def faultF (l : List UInt8) : Nat → Nat → Int
  | 0, _ => -1
  | f + 1, i => if i < l.length then (if okL (l.drop i) then faultF l f (i + fit (l.drop i)) else i) else -1
def faultL (l : List UInt8) : Int := faultF l l.length 0

theorem faultF_end (l : List UInt8) (f i : Nat) (h : ¬ i < l.length) : faultF l f i = -1 := by
  cases f with
  | zero => rfl
  | succ f => simp [faultF, h]

/-- An iterator stands at a place. -/
def It (B : Nat) (W0 : World) (s : ByteArray) (pos : Nat) (w : World) : Prop := w.heap[B]? = some (.stringIter s pos) ∧ Below B W0 w
theorem It.start (w : World) (s : ByteArray) : It w.heap.size w s 0 (w.iter s 0) := ⟨World.iter_heap w s 0, (Below.refl _ _).alloc (Nat.le_refl _) _⟩
theorem It.next {B : Nat} {W0 w : World} {s : ByteArray} {pos : Nat} (h : It B W0 s pos w) (p : Nat) : It B W0 s p (w.iterAt B s p) := ⟨Lib.iterAt_heap w B s pos p h.1, Lib.below_iterAt h.2 (Nat.le_refl _) s p⟩
theorem It.step {B : Nat} {W0 w w' : World} {s : ByteArray} {pos : Nat} (h : It B W0 s pos w) (h' : Below w.heap.size w w') : It B W0 s pos w' := by
  have hlt : B < w.heap.size := (Array.getElem?_eq_some_iff.1 h.1).1
  exact ⟨(h'.block B hlt).trans h.1, h.2.trans (h'.mono (by omega))⟩


end Go.Proofs.YtclcmkklonnalaaGreat.Ut

namespace Go.Proofs.YtclcmkklonnalaaGreat.Ut
open Go.RowKit

/-- How many scalar values and faults there are from a place on. -/
def countF (l : List UInt8) : Nat → Nat → Nat
  | 0, _ => 0
  | f + 1, i => if i < l.length then 1 + countF l f (i + fit (l.drop i)) else 0
def countL (l : List UInt8) : Nat := countF l l.length 0

theorem countF_end (l : List UInt8) (f i : Nat) (h : ¬ i < l.length) : countF l f i = 0 := by
  cases f with
  | zero => rfl
  | succ f => simp [countF, h]

theorem countF_le (l : List UInt8) : ∀ f i, i ≤ l.length → countF l f i ≤ l.length - i
  | 0, i, _ => by simp [countF]
  | f + 1, i, hi => by
    unfold countF
    split
    · rename_i h
      have hne : l.drop i ≠ [] := by intro e; have := congrArg List.length e; simp at this; omega
      have h1 := (fit_spec (l.drop i)).1
      have h2 := fit_le (l.drop i) hne
      simp at h2
      have := countF_le l f (i + fit (l.drop i)) (by omega)
      omega
    · omega

theorem bt_drop (l : List UInt8) (i j : Nat) : bt (l.drop i) j = bt l (i + j) := by
  unfold bt; rw [List.getD_eq_getElem?_getD, List.getD_eq_getElem?_getD, List.getElem?_drop]

theorem goOn_cont (l : List UInt8) (j : Nat) (h1 : 1 ≤ j) (h : goOn l j) : 128 ≤ bt l j ∧ bt l j ≤ 191 := by
  unfold goOn at h
  rcases rowB_cases (bt l 0) (bt_lt l 0) with ⟨c, e⟩ | ⟨c, c', e⟩ | ⟨c, e⟩ | ⟨c, c', e⟩ | ⟨c, e⟩ | ⟨c, c', e⟩ | ⟨c, e⟩ | ⟨c, c', e⟩ | ⟨c, e⟩ | ⟨c, e⟩
  all_goals
    rw [e] at h
    simp only at h
    obtain ⟨a, _, b, d⟩ := h
    split at b <;> split at d <;> omega

theorem cont_bad (l : List UInt8) (h : 128 ≤ bt l 0 ∧ bt l 0 ≤ 191) : okL l = false := by
  cases e : okL l with
  | false => rfl
  | true =>
    have := ((okL_iff l).1 e).2
    have f1 := (fit_spec l).1
    have r : rowB (bt l 0) = (0, 0, 0) := by
      rcases rowB_cases (bt l 0) (bt_lt l 0) with ⟨c, e⟩ | ⟨c, c', e⟩ | ⟨c, e⟩ | ⟨c, c', e⟩ | ⟨c, e⟩ | ⟨c, c', e⟩ | ⟨c, e⟩ | ⟨c, c', e⟩ | ⟨c, e⟩ | ⟨c, e⟩ <;> first | exact e | omega
    rw [r] at this; simp at this; omega

end Go.Proofs.YtclcmkklonnalaaGreat.Ut

namespace Go.Proofs.YtclcmkklonnalaaGreat.Ut
open Go.RowKit

/-- The reference's table. -/
def rowT (k : Nat) : Int × Int × Int × Int × Nat :=
  if k = 0 then (0, 127, 0, 0, 1) else if k = 1 then (194, 223, 128, 191, 2) else if k = 2 then (224, 224, 160, 191, 3) else if k = 3 then (225, 236, 128, 191, 3)
  else if k = 4 then (237, 237, 128, 159, 3) else if k = 5 then (238, 239, 128, 191, 3) else if k = 6 then (240, 240, 144, 191, 4) else if k = 7 then (241, 243, 128, 191, 4) else (244, 244, 128, 143, 4)
def rowL (k : Nat) : List Value := [.int .i64 (rowT k).1, .int .i64 (rowT k).2.1, .int .i64 (rowT k).2.2.1, .int .i64 (rowT k).2.2.2.1, .int .i64 (rowT k).2.2.2.2]
def rowC (k : Nat) : Value := .agg (rowL k).toArray

/-- All of it, cell by cell. -/
def tabC : Array Value := (rowL 0 ++ rowL 1 ++ rowL 2 ++ rowL 3 ++ rowL 4 ++ rowL 5 ++ rowL 6 ++ rowL 7 ++ rowL 8).toArray
def tabZ : Array Value := Array.replicate 45 (.int .i64 0)

theorem tabZ_zero (w : World) : (zeroValue 163).run Tryz.prog w = .ok (.agg tabZ) w := by kernel_rfl
theorem tabC_at : ∀ k : Fin 9, ∀ j : Fin 5, ∃ n : Int, tabC[5 * k.1 + j.1]? = some (.int .i64 n) ∧ (rowL k.1)[j.1]? = some (.int .i64 n) := by
  intro k j
  match k, j with
  | ⟨0, _⟩, ⟨0, _⟩ | ⟨0, _⟩, ⟨1, _⟩ | ⟨0, _⟩, ⟨2, _⟩ | ⟨0, _⟩, ⟨3, _⟩ | ⟨0, _⟩, ⟨4, _⟩ => exact ⟨_, rfl, rfl⟩
  | ⟨1, _⟩, ⟨0, _⟩ | ⟨1, _⟩, ⟨1, _⟩ | ⟨1, _⟩, ⟨2, _⟩ | ⟨1, _⟩, ⟨3, _⟩ | ⟨1, _⟩, ⟨4, _⟩ => exact ⟨_, rfl, rfl⟩
  | ⟨2, _⟩, ⟨0, _⟩ | ⟨2, _⟩, ⟨1, _⟩ | ⟨2, _⟩, ⟨2, _⟩ | ⟨2, _⟩, ⟨3, _⟩ | ⟨2, _⟩, ⟨4, _⟩ => exact ⟨_, rfl, rfl⟩
  | ⟨3, _⟩, ⟨0, _⟩ | ⟨3, _⟩, ⟨1, _⟩ | ⟨3, _⟩, ⟨2, _⟩ | ⟨3, _⟩, ⟨3, _⟩ | ⟨3, _⟩, ⟨4, _⟩ => exact ⟨_, rfl, rfl⟩
  | ⟨4, _⟩, ⟨0, _⟩ | ⟨4, _⟩, ⟨1, _⟩ | ⟨4, _⟩, ⟨2, _⟩ | ⟨4, _⟩, ⟨3, _⟩ | ⟨4, _⟩, ⟨4, _⟩ => exact ⟨_, rfl, rfl⟩
  | ⟨5, _⟩, ⟨0, _⟩ | ⟨5, _⟩, ⟨1, _⟩ | ⟨5, _⟩, ⟨2, _⟩ | ⟨5, _⟩, ⟨3, _⟩ | ⟨5, _⟩, ⟨4, _⟩ => exact ⟨_, rfl, rfl⟩
  | ⟨6, _⟩, ⟨0, _⟩ | ⟨6, _⟩, ⟨1, _⟩ | ⟨6, _⟩, ⟨2, _⟩ | ⟨6, _⟩, ⟨3, _⟩ | ⟨6, _⟩, ⟨4, _⟩ => exact ⟨_, rfl, rfl⟩
  | ⟨7, _⟩, ⟨0, _⟩ | ⟨7, _⟩, ⟨1, _⟩ | ⟨7, _⟩, ⟨2, _⟩ | ⟨7, _⟩, ⟨3, _⟩ | ⟨7, _⟩, ⟨4, _⟩ => exact ⟨_, rfl, rfl⟩
  | ⟨8, _⟩, ⟨0, _⟩ | ⟨8, _⟩, ⟨1, _⟩ | ⟨8, _⟩, ⟨2, _⟩ | ⟨8, _⟩, ⟨3, _⟩ | ⟨8, _⟩, ⟨4, _⟩ => exact ⟨_, rfl, rfl⟩

theorem tab_range (w : World) (t : TypeId) (k : Nat) (hk : k < 9) : (w.alloc (.cells tabC t)).rangeAt w.heap.size (k * 5) (rowL k) := by
  intro j v hv
  have hj : j < 5 := by have := (List.getElem?_eq_some_iff.1 hv).1; simpa [rowL] using this
  obtain ⟨n, h1, h2⟩ := tabC_at ⟨k, hk⟩ ⟨j, hj⟩
  simp only at h1 h2
  rw [World.cell?_alloc_new, Nat.mul_comm k 5, h1, ← h2, hv]

theorem tab_range2 (w : World) (a : Obj) (t : TypeId) (k : Nat) (hk : k < 9) : ((w.alloc a).alloc (.cells tabC t)).rangeAt (w.heap.size + 1) (k * 5) (rowL k) := by
  have := tab_range (w.alloc a) t k hk
  simpa using this
theorem heap_two (w : World) (a o : Obj) : ((w.alloc a).alloc o).heap[w.heap.size + 1]? = some o := by
  have := heap_alloc_last (w.alloc a) o
  simpa using this
theorem setRow_two (w : World) (a : Obj) (c c' : Array Value) (t : TypeId) : ((w.alloc a).alloc (.cells c t)).setRow (w.heap.size + 1) c' = (w.alloc a).alloc (.cells c' t) := by
  have := World.setRow_alloc_new (w.alloc a) c c' t
  simpa using this

set_option maxRecDepth 100000 in
set_option maxHeartbeats 1000000 in
theorem rrow_any (k : Nat) (hk : k < 9) (w : World) : Calls Tryz.prog 84 #[.int .i64 k] w fun e w' => e = .returned (rowC k) ∧ Below w.heap.size w w' := by
  have hz := tabZ_zero
  go_enter Tryz.func84, Tryz.ntmps84
  go_wp2_with (first | (refine wpList_store_row rfl 163 (.tmp 3) (.tmp 13) rfl (w.heap.size + 1) tabC (by exact rfl) (by kernel_rfl) 163 tabZ (heap_two w _ _) (by kernel_rfl) (by kernel_rfl) (by kernel_rfl) ?_; rw [setRow_two]) | (refine wpList_load_mid rfl 132 (.tmp 15) rfl (w.heap.size + 1) (k * 5) (by exact rfl) (rowL k) _ (tab_range2 w _ _ k hk) Tryz.underlying132 rfl (by kernel_rfl) ?_; unfold rowL))
  refine bodyPost_ret (v := rowC k) ?_ rfl ⟨rfl, ?_⟩
  · simp [results, Tryz.results84, go_sem, rowC, rowL]
  · exact ((Below.refl _ _).alloc (Nat.le_refl _) _).alloc (by simp) _

/-- Does the byte at a place lie where a row asks? -/
def fitX (s : ByteArray) (x0 x1 x2 x3 : Int) (x4 j : Nat) : Prop :=
  j < s.size ∧ j < x4 ∧ (if j = 0 then x0 else if j = 1 then x2 else 128) ≤ (bt s.data.toList j : Int) ∧ (bt s.data.toList j : Int) ≤ (if j = 0 then x1 else if j = 1 then x3 else 191)

theorem byte_conv (x : UInt8) : wrap64 (x.toNat : Int) = x.toNat := by
  have := x.toNat_lt; unfold wrap64; omega

set_option maxRecDepth 100000 in
set_option maxHeartbeats 4000000 in
theorem fits_any (s : ByteArray) (x0 x1 x2 x3 : Int) (x4 n : Nat) (w : World) (hs : s.size ≤ maxLen) (h4 : x4 ≤ 4) (hin : ∀ j, j < n → fitX s x0 x1 x2 x3 x4 j) (hn : ¬ fitX s x0 x1 x2 x3 x4 n) :
    Calls Tryz.prog 85 #[.string s, .agg #[.int .i64 x0, .int .i64 x1, .int .i64 x2, .int .i64 x3, .int .i64 x4]] w fun e w' => e = .returned (.int .i64 n) ∧ Below w.heap.size w w' := by
  unfold maxLen at hs
  have hbel : Below w.heap.size w (w.alloc (.cells #[.int .i64 x0, .int .i64 x1, .int .i64 x2, .int .i64 x3, .int .i64 x4] 132)) := (Below.refl _ _).alloc (Nat.le_refl _) _
  have HIN : Hid (∀ j, j < n → fitX s x0 x1 x2 x3 x4 j) := hin
  have HN : Hid (¬ fitX s x0 x1 x2 x3 x4 n) := hn
  clear hin hn
  go_enter Tryz.func85, Tryz.ntmps85
  go_wp2
  go_loop [5] (fun i => ∃ k : Nat, k ≤ n ∧ i = .int .i64 k) (fun i => n - (intOf i).toNat)
  case atStart => exact ⟨0, Nat.zero_le _, rfl⟩
  case round =>
    obtain ⟨k, hk, rfl⟩ := hrel
    by_cases hkn : k < n
    · have g := HIN.out k hkn
      unfold fitX at g
      obtain ⟨g1, g2, g3, g4⟩ := g
      rw [bt_at s k g1] at g3 g4
      have hb := byte_le s[k]
      clear HIN HN
      have C : k = 0 ∨ k = 1 ∨ 2 ≤ k := by omega
      rcases C with rfl | rfl | hk2
      · simp only [if_true] at g3 g4
        go_wp2
        go_round
        case rel => exact ⟨1, by omega, rfl⟩
        case measure => simp [intOf]; omega
      · simp only [Nat.one_ne_zero, if_false, if_true] at g3 g4
        go_wp2
        go_round
        case rel => exact ⟨2, by omega, rfl⟩
        case measure => simp [intOf]; omega
      · rw [if_neg (by omega), if_neg (by omega)] at g3 g4
        go_wp2
        go_round
        case rel => exact ⟨k + 1, by omega, by go_num⟩
        case measure => simp [intOf]; omega
    · obtain rfl : k = n := by omega
      have hno := HN.out
      clear HIN HN
      unfold fitX at hno
      by_cases c1 : k < s.size
      · by_cases c2 : k < x4
        · rw [bt_at s k c1] at hno
          have hb := byte_le s[k]
          have C : k = 0 ∨ k = 1 ∨ 2 ≤ k := by omega
          rcases C with rfl | rfl | hk2
          · simp only [if_true] at hno
            by_cases c3 : (s[0].toNat : Int) < x0
            · clear hno
              go_wp2
              go_ret
              exact ⟨rfl, hbel⟩
            · have c4 : x1 < (s[0].toNat : Int) := by
                apply Int.lt_of_not_ge; intro h; exact hno ⟨c1, c2, by omega, h⟩
              clear hno
              go_wp2
              go_ret
              exact ⟨rfl, hbel⟩
          · simp only [Nat.one_ne_zero, if_false, if_true] at hno
            by_cases c3 : (s[1].toNat : Int) < x2
            · clear hno
              go_wp2
              go_ret
              exact ⟨rfl, hbel⟩
            · have c4 : x3 < (s[1].toNat : Int) := by
                apply Int.lt_of_not_ge; intro h; exact hno ⟨c1, c2, by omega, h⟩
              clear hno
              go_wp2
              go_ret
              exact ⟨rfl, hbel⟩
          · rw [if_neg (by omega), if_neg (by omega), if_neg (by omega), if_neg (by omega)] at hno
            by_cases c3 : (s[k].toNat : Int) < 128
            · clear hno
              go_wp2
              go_ret
              exact ⟨rfl, hbel⟩
            · have c4 : 191 < (s[k].toNat : Int) := by
                apply Int.lt_of_not_ge; intro h; exact hno ⟨c1, c2, by omega, h⟩
              clear hno
              go_wp2
              go_ret
              exact ⟨rfl, hbel⟩
        · clear hno
          go_wp2
          go_ret
          exact ⟨rfl, hbel⟩
      · clear hno
        go_wp2
        go_ret
        exact ⟨rfl, hbel⟩
end Go.Proofs.YtclcmkklonnalaaGreat.Ut

namespace Go.Proofs.YtclcmkklonnalaaGreat.Ut
open Go.RowKit

def pv (l : List UInt8) (base : Int) : Nat → Int
  | 0 => bt l 0 - base
  | k + 1 => pv l base k * 64 + bt l (k + 1) - 128
theorem pv_bd (l : List UInt8) (base : Int) (h0 : 192 ≤ base) (h1 : base ≤ 240) (k : Nat) (hk : k ≤ 3) : -100000000 ≤ pv l base k ∧ pv l base k ≤ 100000000 := by
  have b0 := bt_lt l 0
  have b1 := bt_lt l 1
  have b2 := bt_lt l 2
  have b3 := bt_lt l 3
  have c : k = 0 ∨ k = 1 ∨ k = 2 ∨ k = 3 := by omega
  rcases c with rfl | rfl | rfl | rfl <;> simp only [pv, Nat.zero_add, Nat.reduceAdd] <;> omega
def baseI (n : Nat) : Int := if n = 3 then 224 else if n = 4 then 240 else 192
def valS (s : ByteArray) : Int := if s.size = 1 then bt s.data.toList 0 else pv s.data.toList (baseI s.size) (s.size - 1)

set_option maxRecDepth 100000 in
set_option maxHeartbeats 2000000 in
theorem value_224 (s : ByteArray) (w : World) (h1 : 2 ≤ s.size) (h4 : s.size ≤ 4) (q3 : ((s.size : Int) == 3) = true) (q4 : ((s.size : Int) == 4) = false) (H : Hid (valS s = pv s.data.toList 224 (s.size - 1))) :
    Calls Tryz.prog 86 #[.string s] w fun e w' => e = .returned (.int .i64 (valS s)) ∧ w' = w := by
  have HB0 : Hid (bt s.data.toList 0 = s[0].toNat) := bt_at s 0 (by omega)
  have hbl := byte_le s[0]
  have e1' : ((s.size : Int) == 1) = false := by rw [beq_eq_false_iff_ne]; omega
  have PB := fun k hk => pv_bd s.data.toList 224 (by omega) (by omega) k hk
  have HPB : Hid (∀ k, k ≤ 3 → -100000000 ≤ pv s.data.toList 224 k ∧ pv s.data.toList 224 k ≤ 100000000) := PB
  clear PB
  have hst : Hid ((s[0].toNat : Int) - 224 = pv s.data.toList 224 0) := by show (s[0].toNat : Int) - 224 = _; unfold pv; rw [HB0.out]
  go_enter Tryz.func86, Tryz.ntmps86
  go_wp2
  go_loop [3, 4] (fun v i => ∃ k : Nat, k + 1 ≤ s.size ∧ i = .int .i64 ((k + 1 : Nat) : Int) ∧ v = .int .i64 (pv s.data.toList 224 k)) (fun _ i => s.size - (intOf i).toNat)
  case atStart => exact ⟨0, by omega, rfl, int_eq hst.out⟩
  case round =>
    obtain ⟨k, hk, rfl, rfl⟩ := hrel
    have bd := HPB.out k (by omega)
    have bd1 := bd.1
    have bd2 := bd.2
    clear bd
    by_cases hlt : k + 1 < s.size
    · have hb1 := byte_le s[k + 1]
      have HS : Hid (pv s.data.toList 224 (k + 1) = pv s.data.toList 224 k * 64 + s[k + 1].toNat - 128) := by show _ = _; simp only [pv]; rw [bt_at s (k + 1) hlt]
      go_wp2
      go_round
      case rel => exact ⟨k + 1, by omega, by go_num, int_eq HS.out.symm⟩
      case measure => simp [intOf]; omega
    · have HE : Hid (s.size - 1 = k) := by show _ = _; omega
      go_wp2
      go_ret
      exact ⟨ret_int (by rw [H.out, HE.out]), rfl⟩

set_option maxRecDepth 100000 in
set_option maxHeartbeats 2000000 in
theorem value_240 (s : ByteArray) (w : World) (h1 : 2 ≤ s.size) (h4 : s.size ≤ 4) (q3 : ((s.size : Int) == 3) = false) (q4 : ((s.size : Int) == 4) = true) (H : Hid (valS s = pv s.data.toList 240 (s.size - 1))) :
    Calls Tryz.prog 86 #[.string s] w fun e w' => e = .returned (.int .i64 (valS s)) ∧ w' = w := by
  have HB0 : Hid (bt s.data.toList 0 = s[0].toNat) := bt_at s 0 (by omega)
  have hbl := byte_le s[0]
  have e1' : ((s.size : Int) == 1) = false := by rw [beq_eq_false_iff_ne]; omega
  have PB := fun k hk => pv_bd s.data.toList 240 (by omega) (by omega) k hk
  have HPB : Hid (∀ k, k ≤ 3 → -100000000 ≤ pv s.data.toList 240 k ∧ pv s.data.toList 240 k ≤ 100000000) := PB
  clear PB
  have hst : Hid ((s[0].toNat : Int) - 240 = pv s.data.toList 240 0) := by show (s[0].toNat : Int) - 240 = _; unfold pv; rw [HB0.out]
  go_enter Tryz.func86, Tryz.ntmps86
  go_wp2
  go_loop [3, 4] (fun v i => ∃ k : Nat, k + 1 ≤ s.size ∧ i = .int .i64 ((k + 1 : Nat) : Int) ∧ v = .int .i64 (pv s.data.toList 240 k)) (fun _ i => s.size - (intOf i).toNat)
  case atStart => exact ⟨0, by omega, rfl, int_eq hst.out⟩
  case round =>
    obtain ⟨k, hk, rfl, rfl⟩ := hrel
    have bd := HPB.out k (by omega)
    have bd1 := bd.1
    have bd2 := bd.2
    clear bd
    by_cases hlt : k + 1 < s.size
    · have hb1 := byte_le s[k + 1]
      have HS : Hid (pv s.data.toList 240 (k + 1) = pv s.data.toList 240 k * 64 + s[k + 1].toNat - 128) := by show _ = _; simp only [pv]; rw [bt_at s (k + 1) hlt]
      go_wp2
      go_round
      case rel => exact ⟨k + 1, by omega, by go_num, int_eq HS.out.symm⟩
      case measure => simp [intOf]; omega
    · have HE : Hid (s.size - 1 = k) := by show _ = _; omega
      go_wp2
      go_ret
      exact ⟨ret_int (by rw [H.out, HE.out]), rfl⟩

set_option maxRecDepth 100000 in
set_option maxHeartbeats 2000000 in
theorem value_192 (s : ByteArray) (w : World) (h1 : 2 ≤ s.size) (h4 : s.size ≤ 4) (q3 : ((s.size : Int) == 3) = false) (q4 : ((s.size : Int) == 4) = false) (H : Hid (valS s = pv s.data.toList 192 (s.size - 1))) :
    Calls Tryz.prog 86 #[.string s] w fun e w' => e = .returned (.int .i64 (valS s)) ∧ w' = w := by
  have HB0 : Hid (bt s.data.toList 0 = s[0].toNat) := bt_at s 0 (by omega)
  have hbl := byte_le s[0]
  have e1' : ((s.size : Int) == 1) = false := by rw [beq_eq_false_iff_ne]; omega
  have PB := fun k hk => pv_bd s.data.toList 192 (by omega) (by omega) k hk
  have HPB : Hid (∀ k, k ≤ 3 → -100000000 ≤ pv s.data.toList 192 k ∧ pv s.data.toList 192 k ≤ 100000000) := PB
  clear PB
  have hst : Hid ((s[0].toNat : Int) - 192 = pv s.data.toList 192 0) := by show (s[0].toNat : Int) - 192 = _; unfold pv; rw [HB0.out]
  go_enter Tryz.func86, Tryz.ntmps86
  go_wp2
  go_loop [3, 4] (fun v i => ∃ k : Nat, k + 1 ≤ s.size ∧ i = .int .i64 ((k + 1 : Nat) : Int) ∧ v = .int .i64 (pv s.data.toList 192 k)) (fun _ i => s.size - (intOf i).toNat)
  case atStart => exact ⟨0, by omega, rfl, int_eq hst.out⟩
  case round =>
    obtain ⟨k, hk, rfl, rfl⟩ := hrel
    have bd := HPB.out k (by omega)
    have bd1 := bd.1
    have bd2 := bd.2
    clear bd
    by_cases hlt : k + 1 < s.size
    · have hb1 := byte_le s[k + 1]
      have HS : Hid (pv s.data.toList 192 (k + 1) = pv s.data.toList 192 k * 64 + s[k + 1].toNat - 128) := by show _ = _; simp only [pv]; rw [bt_at s (k + 1) hlt]
      go_wp2
      go_round
      case rel => exact ⟨k + 1, by omega, by go_num, int_eq HS.out.symm⟩
      case measure => simp [intOf]; omega
    · have HE : Hid (s.size - 1 = k) := by show _ = _; omega
      go_wp2
      go_ret
      exact ⟨ret_int (by rw [H.out, HE.out]), rfl⟩

theorem value_any (s : ByteArray) (w : World) (h1 : 1 ≤ s.size) (h4 : s.size ≤ 4) :
    Calls Tryz.prog 86 #[.string s] w fun e w' => e = .returned (.int .i64 (valS s)) ∧ w' = w := by
  by_cases e1 : s.size = 1
  · have HB0 : Hid (bt s.data.toList 0 = s[0].toNat) := bt_at s 0 (by omega)
    have hbl := byte_le s[0]
    have H : Hid (valS s = s[0].toNat) := by show _ = _; unfold valS; rw [if_pos e1, HB0.out]
    have e1' : ((s.size : Int) == 1) = true := by simp [e1]
    clear e1
    go_enter Tryz.func86, Tryz.ntmps86
    go_wp2
    go_ret
    exact ⟨ret_int H.out.symm, rfl⟩
  · have hv : valS s = pv s.data.toList (baseI s.size) (s.size - 1) := by unfold valS; rw [if_neg e1]
    by_cases q3 : s.size = 3
    · exact value_224 s w (by omega) h4 (by simp [q3]) (by simp [q3]) (by show _ = _; rw [hv]; unfold baseI; rw [if_pos q3])
    · by_cases q4 : s.size = 4
      · exact value_240 s w (by omega) h4 (by rw [beq_eq_false_iff_ne]; omega) (by simp [q4]) (by show _ = _; rw [hv]; unfold baseI; rw [if_neg q3, if_pos q4])
      · exact value_192 s w (by omega) h4 (by rw [beq_eq_false_iff_ne]; omega) (by rw [beq_eq_false_iff_ne]; omega) (by show _ = _; rw [hv]; unfold baseI; rw [if_neg q3, if_neg q4])

/-- A row's value, of the bytes that it takes. -/
theorem valS_eq (s : ByteArray) (h : okL s.data.toList = true) : valS (s.extract 0 (fit s.data.toList)) = valL s.data.toList ∧ (s.extract 0 (fit s.data.toList)).size = fit s.data.toList := by
  obtain ⟨hne, hf⟩ := (okL_iff _).1 h
  obtain ⟨f1, f4, fg, fn⟩ := fit_spec s.data.toList
  have hfl := fit_le _ hne
  have hx : (s.extract 0 (fit s.data.toList)).data.toList = s.data.toList.take (fit s.data.toList) := by rw [ext_list]; simp
  have hsz : (s.extract 0 (fit s.data.toList)).size = fit s.data.toList := by rw [← len_size, hx, List.length_take]; omega
  refine ⟨?_, hsz⟩
  unfold valS
  rw [hsz]
  have hb : ∀ j, j < fit s.data.toList → bt (s.extract 0 (fit s.data.toList)).data.toList j = bt s.data.toList j := by
    intro j hj
    unfold bt
    rw [hx, List.getD_eq_getElem?_getD, List.getD_eq_getElem?_getD, List.getElem?_take, if_pos hj]
  generalize (s.extract 0 (fit s.data.toList)).data.toList = m at *
  generalize s.data.toList = l at *
  have k1 : 2 ≤ fit l → 128 ≤ bt l 1 := fun g => (goOn_cont l 1 (by omega) (fg 1 (by omega) (by omega))).1
  have k2 : 3 ≤ fit l → 128 ≤ bt l 2 := fun g => (goOn_cont l 2 (by omega) (fg 2 (by omega) (by omega))).1
  have k3 : 4 ≤ fit l → 128 ≤ bt l 3 := fun g => (goOn_cont l 3 (by omega) (fg 3 (by omega) (by omega))).1
  have r := rowB_cases (bt l 0) (bt_lt l 0)
  have c : fit l = 1 ∨ fit l = 2 ∨ fit l = 3 ∨ fit l = 4 := by omega
  unfold valL
  rw [hf]
  rcases c with c | c | c | c
  · rw [c] at hb ⊢
    rw [if_pos rfl, if_pos rfl, hb 0 (by omega)]
  · rw [c] at hb hf k1 ⊢
    have e0 := hb 0 (by omega)
    have e1 := hb 1 (by omega)
    have h0 : 192 ≤ bt l 0 := by rcases r with ⟨_, e⟩ | ⟨_, _, e⟩ | ⟨_, e⟩ | ⟨_, _, e⟩ | ⟨_, e⟩ | ⟨_, _, e⟩ | ⟨_, e⟩ | ⟨_, _, e⟩ | ⟨_, e⟩ | ⟨_, e⟩ <;> rw [e] at hf <;> simp at hf <;> omega
    simp only [baseI, pv, Nat.zero_add, Nat.reduceEqDiff, if_false, if_true, Nat.reduceSub, e0, e1]
    have := k1 (by omega)
    omega
  · rw [c] at hb hf k1 k2 ⊢
    have e0 := hb 0 (by omega)
    have e1 := hb 1 (by omega)
    have e2 := hb 2 (by omega)
    have h0 : 224 ≤ bt l 0 := by rcases r with ⟨_, e⟩ | ⟨_, _, e⟩ | ⟨_, e⟩ | ⟨_, _, e⟩ | ⟨_, e⟩ | ⟨_, _, e⟩ | ⟨_, e⟩ | ⟨_, _, e⟩ | ⟨_, e⟩ | ⟨_, e⟩ <;> rw [e] at hf <;> simp at hf <;> omega
    simp only [baseI, pv, Nat.zero_add, Nat.reduceAdd, Nat.reduceEqDiff, if_false, if_true, Nat.reduceSub, e0, e1, e2]
    have := k1 (by omega)
    have := k2 (by omega)
    omega
  · rw [c] at hb hf k1 k2 k3 ⊢
    have e0 := hb 0 (by omega)
    have e1 := hb 1 (by omega)
    have e2 := hb 2 (by omega)
    have e3 := hb 3 (by omega)
    have h0 : 240 ≤ bt l 0 := by rcases r with ⟨_, e⟩ | ⟨_, _, e⟩ | ⟨_, e⟩ | ⟨_, _, e⟩ | ⟨_, e⟩ | ⟨_, _, e⟩ | ⟨_, e⟩ | ⟨_, _, e⟩ | ⟨_, e⟩ | ⟨_, e⟩ <;> rw [e] at hf <;> simp at hf <;> omega
    simp only [baseI, pv, Nat.zero_add, Nat.reduceAdd, Nat.reduceEqDiff, if_false, if_true, Nat.reduceSub, e0, e1, e2, e3]
    have := k1 (by omega)
    have := k2 (by omega)
    have := k3 (by omega)
    omega
end Go.Proofs.YtclcmkklonnalaaGreat.Ut

namespace Go.Proofs.YtclcmkklonnalaaGreat.Ut
open Go.RowKit

/-- Does a first byte belong to a row? -/
def mB (b k : Nat) : Bool := decide ((rowT k).1 ≤ (b : Int)) && decide ((b : Int) ≤ (rowT k).2.1)
theorem mB_all : ∀ b : Fin 256, ∀ k : Fin 9, mB b.1 k.1 = true → (rowB b.1).1 = (rowT k.1).2.2.2.2 ∧ ((rowB b.1).2.1 : Int) = (rowT k.1).2.2.1 ∧ ((rowB b.1).2.2 : Int) = (rowT k.1).2.2.2.1 := by decide +kernel
theorem mB_none : ∀ b : Fin 256, (∀ k : Fin 9, mB b.1 k.1 = false) → (rowB b.1).1 = 0 := by decide +kernel
theorem x4_all : ∀ k : Fin 9, 1 ≤ (rowT k.1).2.2.2.2 ∧ (rowT k.1).2.2.2.2 ≤ 4 := by decide +kernel

theorem fitX_fit (s : ByteArray) (h0 : 0 < s.size) (k : Nat) (hk : k < 9) (hm : mB (bt s.data.toList 0) k = true) :
    (∀ j, j < fit s.data.toList → fitX s (rowT k).1 (rowT k).2.1 (rowT k).2.2.1 (rowT k).2.2.2.1 (rowT k).2.2.2.2 j) ∧ ¬ fitX s (rowT k).1 (rowT k).2.1 (rowT k).2.2.1 (rowT k).2.2.2.1 (rowT k).2.2.2.2 (fit s.data.toList) := by
  obtain ⟨e1, e2, e3⟩ := mB_all ⟨bt s.data.toList 0, bt_lt _ _⟩ ⟨k, hk⟩ hm
  have hx4 := x4_all ⟨k, hk⟩
  simp only at e1 e2 e3 hx4
  obtain ⟨f1, f4, fg, fn⟩ := fit_spec s.data.toList
  have eq : ∀ j, 1 ≤ j → (fitX s (rowT k).1 (rowT k).2.1 (rowT k).2.2.1 (rowT k).2.2.2.1 (rowT k).2.2.2.2 j ↔ goOn s.data.toList j) := by
    intro j hj
    unfold fitX goOn
    rw [len_size, e1, if_neg (show ¬ j = 0 by omega), if_neg (show ¬ j = 0 by omega)]
    by_cases hj1 : j = 1
    · rw [if_pos hj1, if_pos hj1, if_pos hj1, if_pos hj1]; omega
    · rw [if_neg hj1, if_neg hj1, if_neg hj1, if_neg hj1]; omega
  refine ⟨fun j hj => ?_, fun h => fn ((eq _ f1).1 h)⟩
  by_cases hj0 : j = 0
  · subst hj0
    unfold mB at hm
    simp only [Bool.and_eq_true, decide_eq_true_eq] at hm
    unfold fitX
    rw [if_pos rfl, if_pos rfl]
    exact ⟨h0, by omega, hm.1, hm.2⟩
  · exact (eq j (by omega)).2 (fg j (by omega) hj)

theorem fitX_zero (s : ByteArray) (k : Nat) (hm : mB (bt s.data.toList 0) k = false) :
    ¬ fitX s (rowT k).1 (rowT k).2.1 (rowT k).2.2.1 (rowT k).2.2.2.1 (rowT k).2.2.2.2 0 := by
  intro h
  unfold fitX at h
  rw [if_pos rfl, if_pos rfl] at h
  unfold mB at hm
  rw [Bool.and_eq_false_iff] at hm
  rcases hm with hm | hm
  · exact of_decide_eq_false hm h.2.2.1
  · exact of_decide_eq_false hm h.2.2.2

/-- What the reference tells of the bytes that begin a text. -/
def gotV (l : List UInt8) : Value := .agg #[.int .i64 (decR l), .int .i64 (decN l), .bool (okL l)]

theorem cell_row {w : World} {g : Nat} {c : Array Value} {t : TypeId} (h : w.heap[g]? = some (.cells c t)) (j : Nat) : w.cell? ⟨g, j, none⟩ = c[j]? := cell_of_row w g j c t (0, 0) h
theorem frozen_row {w : World} {g : Nat} {c : Array Value} {t : TypeId} (h : w.heap[g]? = some (.cells c t)) (j : Nat) : w.frozen? ⟨g, j, none⟩ = false := by
  simp [World.frozen?, h]

set_option maxRecDepth 100000 in
set_option maxHeartbeats 4000000 in
theorem rdec_any (s : ByteArray) (w : World) (hs : s.size ≤ maxLen) :
    Calls Tryz.prog 43 #[.string s] w fun e w' => e = .returned (gotV s.data.toList) ∧ Below w.heap.size w w' := by
  by_cases h0 : 0 < s.size
  · have hne : s.data.toList ≠ [] := by have := drop_ne s 0 h0; rwa [List.drop_zero] at this
    have hE : Hid (s.toList.isEmpty = false) := by
      show _ = _; rw [ByteArray.toList_eq]; cases h : s.data.toList with | nil => exact absurd h hne | cons a b => rfl
    have hE' := hE.out
    obtain ⟨f1, f4, _, _⟩ := fit_spec s.data.toList
    have hfl := fit_le _ hne
    rw [len_size] at hfl
    have HN : Hid (decN s.data.toList = fit s.data.toList) := by show _ = _; unfold decN; rw [if_neg hne]
    have HS : Hid (s.size ≤ maxLen) := hs
    unfold maxLen at hs
    clear hne
    go_enter Tryz.func43, Tryz.ntmps43
    go_wp2
    go_loopw [3, 4] (fun b i wr => ∃ k n : Nat, k ≤ 9 ∧ i = .int .i64 k ∧ b = .int .i64 n ∧ wr.heap[w.heap.size]? = some (.cells #[.int .i64 0, .int .i64 0, .bool false] 82) ∧ Ok w.heap.size w wr ∧ 1 ≤ n ∧ n ≤ 4 ∧ Hid ((∀ j, j < k → mB (bt s.data.toList 0) j = false) ∧ n = 1 ∨ n = fit s.data.toList ∧ okL s.data.toList = false)) (fun _ i _ => 9 - (intOf i).toNat)
    case atStart => 
      refine ⟨0, 1, by omega, rfl, rfl, by simpa using heap_alloc_last w _, ⟨(Below.refl _ _).alloc (Nat.le_refl _) _, by simp⟩, by omega, by omega, .inl ⟨fun j hj => by omega, rfl⟩⟩
    case round =>
      obtain ⟨k, n, hk, rfl, rfl, hg, hok, hn1, hn4, hin⟩ := hrel
      by_cases hlt : k < 9
      · have x4 := x4_all ⟨k, hlt⟩
        simp only at x4
        have HR : Hid (∀ w, Calls Tryz.prog 84 #[.int .i64 k] w fun e w' => e = .returned (.agg #[.int .i64 (rowT k).1, .int .i64 (rowT k).2.1, .int .i64 (rowT k).2.2.1, .int .i64 (rowT k).2.2.2.1, .int .i64 (rowT k).2.2.2.2]) ∧ Below w.heap.size w w') := fun w => rrow_any k hlt w
        by_cases hm : mB (bt s.data.toList 0) k = true
        · obtain ⟨FX1, FX2⟩ := fitX_fit s h0 k hlt hm
          have HF : Hid (∀ w, Calls Tryz.prog 85 #[.string s, .agg #[.int .i64 (rowT k).1, .int .i64 (rowT k).2.1, .int .i64 (rowT k).2.2.1, .int .i64 (rowT k).2.2.2.1, .int .i64 (rowT k).2.2.2.2]] w fun e w' => e = .returned (.int .i64 (fit s.data.toList)) ∧ Below w.heap.size w w') := fun w => fits_any s _ _ _ _ _ _ w HS.out x4.2 FX1 FX2
          have hsz := (mB_all ⟨bt s.data.toList 0, bt_lt _ _⟩ ⟨k, hlt⟩ hm).1
          simp only at hsz
          clear FX1 FX2
          by_cases hof : (rowT k).2.2.2.2 = fit s.data.toList
          · have hokl : okL s.data.toList = true := (okL_iff _).2 ⟨by intro e; rw [e] at hsz; simp [ByteArray.toList_eq, e] at hE', by rw [hsz, hof]⟩
            obtain ⟨v1, v2⟩ := valS_eq s hokl
            have HV : Hid (∀ w, Calls Tryz.prog 86 #[.string (s.extract 0 (fit s.data.toList))] w fun e w' => e = .returned (.int .i64 (valL s.data.toList)) ∧ w' = w) := fun w => by
              have := value_any (s.extract 0 (fit s.data.toList)) w (by omega) (by omega)
              rw [v1] at this; exact this
            have HO : Hid (okL s.data.toList = true) := hokl
            have HV2 : Hid (decR s.data.toList = valL s.data.toList) := by show _ = _; unfold decR; rw [if_pos hokl]
            rw [hof] at HR HF x4
            clear hokl v1 v2 hsz hm hin hof
            generalize (rowT k).1 = x0 at *
            generalize (rowT k).2.1 = x1 at *
            generalize (rowT k).2.2.1 = x2 at *
            generalize (rowT k).2.2.2.1 = x3 at *
            go_wp2_with fail
            refine (HR.out _).mono ?_
            rintro e w1 ⟨rfl, hb1⟩
            have hg1 := (hb1.block _ (by have := (Array.getElem?_eq_some_iff.1 hg).1; omega)).trans hg
            replace hok := hok.step hb1
            have hlt1 := (Array.getElem?_eq_some_iff.1 hg1).1
            clear hg hb1
            go_wp2_with fail
            refine (HF.out _).mono ?_
            rintro e w2 ⟨rfl, hb2⟩
            have c4 : w2.cell? ⟨w1.heap.size, 4, none⟩ = some (.int .i64 (fit s.data.toList)) := (hb2.cell (p := ⟨w1.heap.size, 4, none⟩) (by simp)).trans (by simp)
            have hg2 := (hb2.block w.heap.size (by simp; omega)).trans ((Below.heap_alloc w1 _ w.heap.size hlt1).trans hg1)
            have hok2 := (hok.step ((Below.refl _ _).alloc (Nat.le_refl _) _)).step hb2
            have hc0 : w2.cell? ⟨w.heap.size, 0, none⟩ = some (.int .i64 0) := cell_row hg2 0
            have hc1 : w2.cell? ⟨w.heap.size, 1, none⟩ = some (.int .i64 0) := cell_row hg2 1
            have hc2 : w2.cell? ⟨w.heap.size, 2, none⟩ = some (.bool false) := cell_row hg2 2
            have hz0 := frozen_row hg2 0
            have hz1 := frozen_row hg2 1
            have hz2 := frozen_row hg2 2
            clear hg2 hb2 hg1 hok hlt1
            go_wp2_with (first | (go_at_call 86; refine (HV.out _).mono ?_; rintro e w' ⟨rfl, rfl⟩))
            refine bodyPost_ret (v := .agg #[.int .i64 (valL s.data.toList), .int .i64 (fit s.data.toList), .bool true]) (by simp [results, Tryz.results43, go_sem, hc0, hc1, hc2]) rfl ⟨by unfold gotV; rw [HV2.out, HN.out, HO.out], ((hok2.1.setCell (Nat.le_refl _) _).setCell (Nat.le_refl _) _).setCell (Nat.le_refl _) _⟩
          · have hokl : okL s.data.toList = false := by
              cases e : okL s.data.toList with
              | false => rfl
              | true => exact absurd ((okL_iff _).1 e).2 (by rw [hsz]; exact hof)
            have hne4 : ((fit s.data.toList : Int) == ((rowT k).2.2.2.2 : Int)) = false := by rw [beq_eq_false_iff_ne]; omega
            have hmx : n ≤ fit s.data.toList := by rcases hin.out with ⟨_, h⟩ | ⟨h, _⟩ <;> omega
            have HO : Hid (okL s.data.toList = false) := hokl
            clear hokl hsz hm hin hof
            generalize (rowT k).1 = x0 at *
            generalize (rowT k).2.1 = x1 at *
            generalize (rowT k).2.2.1 = x2 at *
            generalize (rowT k).2.2.2.1 = x3 at *
            generalize (rowT k).2.2.2.2 = xx at *
            go_wp2_with fail
            refine (HR.out _).mono ?_
            rintro e w1 ⟨rfl, hb1⟩
            have hg1 := (hb1.block _ (by have := (Array.getElem?_eq_some_iff.1 hg).1; omega)).trans hg
            replace hok := hok.step hb1
            have hlt1 := (Array.getElem?_eq_some_iff.1 hg1).1
            clear hg hb1
            go_wp2_with fail
            refine (HF.out _).mono ?_
            rintro e w2 ⟨rfl, hb2⟩
            have c4 : w2.cell? ⟨w1.heap.size, 4, none⟩ = some (.int .i64 xx) := (hb2.cell (p := ⟨w1.heap.size, 4, none⟩) (by simp)).trans (by simp)
            have hg2 : Hid (w2.heap[w.heap.size]? = _) := (hb2.block w.heap.size (by simp; omega)).trans ((Below.heap_alloc w1 _ w.heap.size hlt1).trans hg1)
            have hok2 := (hok.step ((Below.refl _ _).alloc (Nat.le_refl _) _)).step hb2
            clear hb2 hg1 hok hlt1
            by_cases hle : fit s.data.toList ≤ n
            · have hnn : n = fit s.data.toList := by omega
              have HNN : Hid (n = fit s.data.toList) := hnn
              clear hnn
              go_wp2_with fail
              go_roundw
              case rel => exact ⟨k + 1, n, by omega, by go_num, rfl, hg2.out, hok2, hn1, hn4, .inr ⟨HNN.out, HO.out⟩⟩
              case measure => simp [intOf]; omega
            · go_wp2_with fail
              go_roundw
              case rel => exact ⟨k + 1, fit s.data.toList, by omega, by go_num, rfl, hg2.out, hok2, f1, f4, .inr ⟨rfl, HO.out⟩⟩
              case measure => simp [intOf]; omega
        · have hm' : mB (bt s.data.toList 0) k = false := by simpa using hm
          have FX2 := fitX_zero s k hm'
          have HF : Hid (∀ w, Calls Tryz.prog 85 #[.string s, .agg #[.int .i64 (rowT k).1, .int .i64 (rowT k).2.1, .int .i64 (rowT k).2.2.1, .int .i64 (rowT k).2.2.2.1, .int .i64 (rowT k).2.2.2.2]] w fun e w' => e = .returned (.int .i64 0) ∧ Below w.heap.size w w') := fun w => fits_any s _ _ _ _ _ 0 w HS.out x4.2 (fun j hj => by omega) FX2
          have HI : Hid ((∀ j, j < k + 1 → mB (bt s.data.toList 0) j = false) ∧ n = 1 ∨ n = fit s.data.toList ∧ okL s.data.toList = false) := by
            rcases hin.out with ⟨h, h'⟩ | h
            · refine .inl ⟨fun j hj => ?_, h'⟩
              by_cases e : j = k
              · subst e; exact hm'
              · exact h j (by omega)
            · exact .inr h
          have hne4 : ((0 : Int) == ((rowT k).2.2.2.2 : Int)) = false := by rw [beq_eq_false_iff_ne]; omega
          clear FX2 hm hm' hin
          generalize (rowT k).1 = x0 at *
          generalize (rowT k).2.1 = x1 at *
          generalize (rowT k).2.2.1 = x2 at *
          generalize (rowT k).2.2.2.1 = x3 at *
          generalize (rowT k).2.2.2.2 = xx at *
          go_wp2_with fail
          refine (HR.out _).mono ?_
          rintro e w1 ⟨rfl, hb1⟩
          have hg1 := (hb1.block _ (by have := (Array.getElem?_eq_some_iff.1 hg).1; omega)).trans hg
          replace hok := hok.step hb1
          have hlt1 := (Array.getElem?_eq_some_iff.1 hg1).1
          clear hg hb1
          go_wp2_with fail
          refine (HF.out _).mono ?_
          rintro e w2 ⟨rfl, hb2⟩
          have c4 : w2.cell? ⟨w1.heap.size, 4, none⟩ = some (.int .i64 xx) := (hb2.cell (p := ⟨w1.heap.size, 4, none⟩) (by simp)).trans (by simp)
          have hg2 : Hid (w2.heap[w.heap.size]? = _) := (hb2.block w.heap.size (by simp; omega)).trans ((Below.heap_alloc w1 _ w.heap.size hlt1).trans hg1)
          have hok2 := (hok.step ((Below.refl _ _).alloc (Nat.le_refl _) _)).step hb2
          clear hb2 hg1 hok hlt1
          go_wp2_with fail
          go_roundw
          case rel => exact ⟨k + 1, n, by omega, by go_num, rfl, hg2.out, hok2, hn1, hn4, HI⟩
          case measure => simp [intOf]; omega
      · have hfin : n = fit s.data.toList ∧ okL s.data.toList = false := by
          rcases hin.out with ⟨h, h'⟩ | h
          · have hz := mB_none ⟨bt s.data.toList 0, bt_lt _ _⟩ (fun j => h j.1 (by have := j.2; omega))
            simp only at hz
            have hf1 : fit s.data.toList = 1 := fit_eq _ 1 (by omega) (fun j a b => by omega) (fun g => by unfold goOn at g; omega)
            refine ⟨by omega, ?_⟩
            cases e : okL s.data.toList with
            | false => rfl
            | true => have := ((okL_iff _).1 e).2; omega
          · exact h
        have HO : Hid (okL s.data.toList = false) := hfin.2
        have HNN : Hid (n = fit s.data.toList) := hfin.1
        have HV2 : Hid (decR s.data.toList = 0) := by show _ = _; unfold decR; rw [hfin.2]; rfl
        have hc0 : wr.cell? ⟨w.heap.size, 0, none⟩ = some (.int .i64 0) := cell_row hg 0
        have hc1 : wr.cell? ⟨w.heap.size, 1, none⟩ = some (.int .i64 0) := cell_row hg 1
        have hc2 : wr.cell? ⟨w.heap.size, 2, none⟩ = some (.bool false) := cell_row hg 2
        have hz0 := frozen_row hg 0
        have hz1 := frozen_row hg 1
        have hz2 := frozen_row hg 2
        have hok2 := hok
        clear hfin hin hg hok
        go_wp2_with fail
        refine bodyPost_ret (v := .agg #[.int .i64 0, .int .i64 n, .bool false]) (by simp [results, Tryz.results43, go_sem, hc0, hc1, hc2]) rfl ⟨by unfold gotV; rw [HV2.out, HN.out, HO.out, ← HNN.out]; rfl, ((hok2.1.setCell (Nat.le_refl _) _).setCell (Nat.le_refl _) _).setCell (Nat.le_refl _) _⟩
  · have hl : s.data.toList = [] := List.eq_nil_of_length_eq_zero (by rw [len_size]; omega)
    have hE' : s.toList.isEmpty = true := by rw [ByteArray.toList_eq, hl]; rfl
    have HV2 : Hid (decR s.data.toList = 0) := by rw [hl]; rfl
    have HN : Hid (decN s.data.toList = 0) := by rw [hl]; rfl
    have HO : Hid (okL s.data.toList = false) := by rw [hl]; rfl
    clear hl
    go_enter Tryz.func43, Tryz.ntmps43
    go_wp2
    refine bodyPost_ret (v := .agg #[.int .i64 0, .int .i64 0, .bool false]) (by simp [results, Tryz.results43, go_sem]) rfl ⟨by unfold gotV; rw [HV2.out, HN.out, HO.out]; rfl, ?_⟩
    exact (Below.refl _ _).alloc (Nat.le_refl _) _

set_option maxHeartbeats 1000000 in
theorem rflt_any (s : ByteArray) (w : World) (hs : s.size ≤ maxLen) :
    Calls Tryz.prog 18 #[.string s] w fun e w' => e = .returned (.int .i64 (faultL s.data.toList)) ∧ Below w.heap.size w w' := by
  have HS : Hid (s.size ≤ maxLen) := hs
  unfold maxLen at hs
  go_enter Tryz.func18, Tryz.ntmps18
  go_wp2
  go_loopw [3] (fun i wr => ∃ k fuel : Nat, i = .int .i64 k ∧ k ≤ s.size ∧ Ok w.heap.size w wr ∧ s.size ≤ k + fuel ∧ Hid (faultF s.data.toList fuel k = faultL s.data.toList)) (fun i _ => s.size - (intOf i).toNat)
  case atStart => exact ⟨0, s.size, rfl, by omega, Ok.start w, by omega, by show _ = _; unfold faultL; rw [len_size]⟩
  case round =>
    obtain ⟨k, fuel, rfl, hks, hok, hfu, hF⟩ := hrel
    by_cases hp : k < s.size
    · obtain ⟨f, rfl⟩ : ∃ f, fuel = f + 1 := ⟨fuel - 1, by omega⟩
      have hF2 := hF.out
      simp only [faultF] at hF2
      rw [if_pos (by rw [len_size]; exact hp)] at hF2
      have f1 := (fit_spec (s.data.toList.drop k)).1
      have f2 := fit_le _ (drop_ne s k hp)
      rw [List.length_drop, len_size] at f2
      have hd := fun w => rdec_any (s.extract k s.size) w (by rw [ext_size]; have := HS.out; omega)
      rw [ext_end] at hd
      unfold gotV decN at hd
      rw [if_neg (drop_ne s k hp)] at hd
      by_cases ho : okL (s.data.toList.drop k) = true
      · rw [if_pos ho] at hF2
        rw [ho] at hd
        have HD : Hid (∀ w, Calls Tryz.prog 43 #[.string (s.extract k s.size)] w fun e w' => e = .returned (.agg #[.int .i64 (decR (s.data.toList.drop k)), .int .i64 (fit (s.data.toList.drop k)), .bool true]) ∧ Below w.heap.size w w') := hd
        have H2 : Hid (faultF s.data.toList f (k + fit (s.data.toList.drop k)) = faultL s.data.toList) := hF2
        clear hd hF2 ho hF
        generalize fit (s.data.toList.drop k) = m at *
        generalize decR (s.data.toList.drop k) = v at *
        go_wp2_with (first | (go_at_call 43; refine (HD.out _).mono ?_; rintro e w' ⟨rfl, hb'⟩; replace hok := hok.step hb'; clear hb'))
        go_roundw
        case rel => exact ⟨k + m, f, by go_num, by omega, hok.step ((Below.refl _ _).alloc (Nat.le_refl _) _), by omega, H2⟩
        case measure => simp [intOf]; omega
      · have ho' : okL (s.data.toList.drop k) = false := by simpa using ho
        rw [if_neg ho] at hF2
        rw [ho'] at hd
        have HD : Hid (∀ w, Calls Tryz.prog 43 #[.string (s.extract k s.size)] w fun e w' => e = .returned (.agg #[.int .i64 (decR (s.data.toList.drop k)), .int .i64 (fit (s.data.toList.drop k)), .bool false]) ∧ Below w.heap.size w w') := hd
        have H2 : Hid ((k : Int) = faultL s.data.toList) := hF2
        clear hd hF2 ho hF ho'
        go_wp2_with (first | (go_at_call 43; refine (HD.out _).mono ?_; rintro e w' ⟨rfl, hb'⟩; replace hok := hok.step hb'; clear hb'))
        go_ret
        exact ⟨ret_int H2.out, (hok.step ((Below.refl _ _).alloc (Nat.le_refl _) _)).1⟩
    · have H2 : Hid (faultL s.data.toList = -1) := by
        show _ = _; rw [← hF.out, faultF_end _ _ _ (by rw [len_size]; exact hp)]
      clear hF
      go_wp2_with fail
      go_ret
      exact ⟨ret_int H2.out.symm, hok.1⟩
end Go.Proofs.YtclcmkklonnalaaGreat.Ut

namespace Go.Proofs.YtclcmkklonnalaaGreat.Ut
open Go.RowKit

def u8s (l : List UInt8) : List Value := l.map fun x => .int .u8 (x.toNat : Int)

/-- The bytes of a new block, as a string. -/
theorem conv_lit (w : World) (l : List UInt8) (n : Nat) (C : Array Value) (hn : l.length = n) (hC : C = (u8s l).toArray) : (convert 124 9 (.slice (some ⟨w.heap.size, 0, none⟩) n n)).run Tryz.prog (w.alloc (.cells C 5)) = .ok (.string ⟨l.toArray⟩) (w.alloc (.cells C 5)) := by
  subst hn hC
  refine run_convert_bytes_back _ 124 9 5 ⟨w.heap.size, 0, none⟩ _ l Tryz.underlying124 Tryz.underlying5 Tryz.underlying9 fun j hj => ?_
  have hadd : (⟨w.heap.size, 0, none⟩ : Addr).add j = ⟨w.heap.size, j, none⟩ := by unfold Addr.add; split <;> simp_all
  rw [hadd, World.cell?_alloc_new]
  simp [u8s, hj]

theorem foldl_push_ints : ∀ (l : List Int) (r : ByteArray), l.foldl (fun r n => r.push (UInt8.ofNat n.toNat)) r = ⟨r.data ++ (l.map fun n => UInt8.ofNat n.toNat).toArray⟩
  | [], r => by simp
  | b :: l, r => by
    rw [List.foldl_cons, foldl_push_ints l]
    simp [ByteArray.push]

theorem conv_ints (w : World) (ns : List Int) (n : Nat) (C : Array Value) (hn : ns.length = n) (hC : C = (ns.map (Value.int .u8)).toArray) : (convert 124 9 (.slice (some ⟨w.heap.size, 0, none⟩) n n)).run Tryz.prog (w.alloc (.cells C 5)) = .ok (.string ⟨(ns.map fun n => UInt8.ofNat n.toNat).toArray⟩) (w.alloc (.cells C 5)) := by
  subst hn hC
  rw [run_convert_bytes_string _ 124 9 5 (some ⟨w.heap.size, 0, none⟩) ns.length ns.length Tryz.underlying124 Tryz.underlying5 Tryz.underlying9]
  have hl := run_loadCells_list (P := Tryz.prog) (w.alloc (.cells (ns.map (Value.int .u8)).toArray 5)) ⟨w.heap.size, 0, none⟩ (ns.map (Value.int .u8)) (fun j v hv => by
    have hadd : (⟨w.heap.size, 0, none⟩ : Addr).add j = ⟨w.heap.size, j, none⟩ := by unfold Addr.add; split <;> simp_all
    rw [hadd, World.cell?_alloc_new]
    simpa using hv)
  rw [List.length_map] at hl
  rw [run_bytesToString _ _ ns.length ns.length ns hl, foldl_push_ints]
  have he0 : ByteArray.empty.data = #[] := rfl
  rw [he0]
  simp

theorem encode_cases (r : Int) (h : scB r = true) :
    (r < 128 → encS r = ⟨#[UInt8.ofNat r.toNat]⟩) ∧ (128 ≤ r → r < 2048 → encS r = ⟨#[UInt8.ofNat (192 + r / 64).toNat, UInt8.ofNat (128 + r % 64).toNat]⟩) ∧
    (2048 ≤ r → r < 65536 → encS r = ⟨#[UInt8.ofNat (224 + r / 4096).toNat, UInt8.ofNat (128 + r / 64 % 64).toNat, UInt8.ofNat (128 + r % 64).toNat]⟩) ∧
    (65536 ≤ r → encS r = ⟨#[UInt8.ofNat (240 + r / 262144).toNat, UInt8.ofNat (128 + r / 4096 % 64).toNat, UInt8.ofNat (128 + r / 64 % 64).toNat, UInt8.ofNat (128 + r % 64).toNat]⟩) := by
  have hr : (0 ≤ r ∧ r < 55296) ∨ (57343 < r ∧ r ≤ 1114111) := of_decide_eq_true h
  have hv : Utf8.valid r = true := by unfold Utf8.valid; simp; omega
  unfold encS
  rw [if_pos h]
  unfold Utf8.encode
  simp only [hv, if_true]
  refine ⟨fun a => ?_, fun a b => ?_, fun a b => ?_, fun a => ?_⟩
  · rw [if_pos (by omega)]
  · rw [if_neg (by omega), if_pos (by omega)]
    rw [show (192 + r / 64).toNat = 0xC0 + r.toNat / 64 by omega, show (128 + r % 64).toNat = 0x80 + r.toNat % 64 by omega]
  · rw [if_neg (by omega), if_neg (by omega), if_pos (by omega)]
    rw [show (224 + r / 4096).toNat = 0xE0 + r.toNat / 4096 by omega, show (128 + r / 64 % 64).toNat = 0x80 + r.toNat / 64 % 64 by omega, show (128 + r % 64).toNat = 0x80 + r.toNat % 64 by omega]
  · rw [if_neg (by omega), if_neg (by omega), if_neg (by omega)]
    rw [show (240 + r / 262144).toNat = 0xF0 + r.toNat / 262144 by omega, show (128 + r / 4096 % 64).toNat = 0x80 + r.toNat / 4096 % 64 by omega, show (128 + r / 64 % 64).toNat = 0x80 + r.toNat / 64 % 64 by omega, show (128 + r % 64).toNat = 0x80 + r.toNat % 64 by omega]

set_option maxRecDepth 100000 in
set_option maxHeartbeats 1000000 in
theorem renc_any (r : Int) (w : World) : Calls Tryz.prog 44 #[.int .i64 r] w fun e w' => e = .returned (.string (encS r)) ∧ Below w.heap.size w w' := by
  have hc1 := fun (w : World) (a : Int) => conv_ints w [a] 1 #[.int .u8 a] rfl rfl
  have hc2 := fun (w : World) (a b : Int) => conv_ints w [a, b] 2 #[.int .u8 a, .int .u8 b] rfl rfl
  have hc3 := fun (w : World) (a b c : Int) => conv_ints w [a, b, c] 3 #[.int .u8 a, .int .u8 b, .int .u8 c] rfl rfl
  have hc4 := fun (w : World) (a b c d : Int) => conv_ints w [a, b, c, d] 4 #[.int .u8 a, .int .u8 b, .int .u8 c, .int .u8 d] rfl rfl
  simp only [List.map_cons, List.map_nil] at hc1 hc2 hc3 hc4
  by_cases h : scB r = true
  · have hr : (0 ≤ r ∧ r < 55296) ∨ (57343 < r ∧ r ≤ 1114111) := of_decide_eq_true h
    have hlo : 0 ≤ r := by omega
    have hhi : r ≤ 1114111 := by omega
    clear hr
    obtain ⟨E1, E2, E3, E4⟩ := encode_cases r h
    by_cases h1 : r < 128
    · have H : Hid (encS r = _) := E1 h1
      clear hc2 hc3 hc4 E1 E2 E3 E4
      go_enter Tryz.func44, Tryz.ntmps44
      go_wp2_with (go_at_call 87; refine (rsc_any _ _).mono ?_; rintro e w' ⟨rfl, rfl⟩)
      go_ret
      exact ⟨ret_string H.out.symm, (Below.refl _ _).alloc (Nat.le_refl _) _⟩
    · by_cases h2 : r < 2048
      · have H : Hid (encS r = _) := E2 (by omega) h2
        clear hc1 hc3 hc4 E1 E2 E3 E4
        go_enter Tryz.func44, Tryz.ntmps44
        go_wp2_with (go_at_call 87; refine (rsc_any _ _).mono ?_; rintro e w' ⟨rfl, rfl⟩)
        go_ret
        exact ⟨ret_string H.out.symm, (Below.refl _ _).alloc (Nat.le_refl _) _⟩
      · by_cases h3 : r < 65536
        · have H : Hid (encS r = _) := E3 (by omega) h3
          clear hc1 hc2 hc4 E1 E2 E3 E4
          go_enter Tryz.func44, Tryz.ntmps44
          go_wp2_with (go_at_call 87; refine (rsc_any _ _).mono ?_; rintro e w' ⟨rfl, rfl⟩)
          go_ret
          exact ⟨ret_string H.out.symm, (Below.refl _ _).alloc (Nat.le_refl _) _⟩
        · have H : Hid (encS r = _) := E4 (by omega)
          clear hc1 hc2 hc3 E1 E2 E3 E4
          go_enter Tryz.func44, Tryz.ntmps44
          go_wp2_with (go_at_call 87; refine (rsc_any _ _).mono ?_; rintro e w' ⟨rfl, rfl⟩)
          go_ret
          exact ⟨ret_string H.out.symm, (Below.refl _ _).alloc (Nat.le_refl _) _⟩
  · have h' : scB r = false := by simpa using h
    have H : Hid (encS r = ⟨#[]⟩) := by show _ = _; unfold encS; rw [h']; rfl
    clear h hc1 hc2 hc3 hc4
    go_enter Tryz.func44, Tryz.ntmps44
    go_wp2_with (go_at_call 87; refine (rsc_any _ _).mono ?_; rintro e w' ⟨rfl, rfl⟩)
    go_ret
    exact ⟨ret_string H.out.symm, Below.refl _ _⟩

theorem bt_cons (x : UInt8) (l : List UInt8) : bt (x :: l) 0 = x.toNat := rfl
theorem bt_succ (x : UInt8) (l : List UInt8) (j : Nat) : bt (x :: l) (j + 1) = bt l j := rfl
theorem ofNat_toNat (v : Int) (h0 : 0 ≤ v) (h1 : v < 256) : (UInt8.ofNat v.toNat).toNat = v.toNat := by
  rw [UInt8.toNat_ofNat']; omega

set_option maxHeartbeats 2000000 in
/-- A scalar value's bytes, whatever stands behind them, begin with it. -/
theorem enc_ok (r : Int) (h : scB r = true) (t : List UInt8) : okL ((encS r).data.toList ++ t) = true ∧ (valL ((encS r).data.toList ++ t) : Int) = r ∧ fit ((encS r).data.toList ++ t) = (encS r).size := by
  have hr : (0 ≤ r ∧ r < 55296) ∨ (57343 < r ∧ r ≤ 1114111) := of_decide_eq_true h
  obtain ⟨E1, E2, E3, E4⟩ := encode_cases r h
  have q1 : r / 64 / 64 = r / 4096 := by omega
  have q2 : r / 4096 / 64 = r / 262144 := by omega
  have fin : ∀ (l : List UInt8) (sz : Nat), (rowB (bt l 0)).1 = sz → 1 ≤ sz → sz ≤ l.length → (∀ j, 1 ≤ j → j < sz → goOn l j) → okL l = true ∧ fit l = sz := by
    intro l sz h1 h2 h3 h4
    have hf : fit l = sz := fit_eq l sz h2 h4 (fun g => by unfold goOn at g; omega)
    exact ⟨(okL_iff l).2 ⟨by intro e; subst e; simp at h3; omega, by rw [hf, h1]⟩, hf⟩
  by_cases h1 : r < 128
  · rw [E1 h1]
    have b0 := ofNat_toNat r (by omega) (by omega)
    generalize UInt8.ofNat r.toNat = x0 at *
    show okL (x0 :: t) = true ∧ (valL (x0 :: t) : Int) = r ∧ fit (x0 :: t) = 1
    have hrow : rowB (bt (x0 :: t) 0) = (1, 0, 0) := by
      rw [bt_cons, b0]; unfold rowB; rw [if_pos (by omega)]
    obtain ⟨a, b⟩ := fin (x0 :: t) 1 (by rw [hrow]) (by omega) (by simp) (fun j _ _ => by omega)
    refine ⟨a, ?_, b⟩
    unfold valL; rw [hrow, if_pos rfl, bt_cons, b0]; omega
  · by_cases h2 : r < 2048
    · rw [E2 (by omega) h2]
      have b0 := ofNat_toNat (192 + r / 64) (by omega) (by omega)
      have b1 := ofNat_toNat (128 + r % 64) (by omega) (by omega)
      generalize UInt8.ofNat (192 + r / 64).toNat = x0 at *
      generalize UInt8.ofNat (128 + r % 64).toNat = x1 at *
      show okL (x0 :: x1 :: t) = true ∧ (valL (x0 :: x1 :: t) : Int) = r ∧ fit (x0 :: x1 :: t) = 2
      have hrow : rowB (bt (x0 :: x1 :: t) 0) = (2, 128, 191) := by
        rw [bt_cons, b0]; unfold rowB; rw [if_neg (by omega), if_pos (by omega)]
      have e1 : bt (x0 :: x1 :: t) 1 = x1.toNat := rfl
      obtain ⟨a, b⟩ := fin (x0 :: x1 :: t) 2 (by rw [hrow]) (by omega) (by simp) (fun j j1 j2 => by
        have : j = 1 := by omega
        subst this
        unfold goOn; rw [hrow, e1, b1]; simp; omega)
      refine ⟨a, ?_, b⟩
      unfold valL; rw [hrow, if_neg (by decide), if_pos rfl, bt_cons, e1, b0, b1]; omega
    · by_cases h3 : r < 65536
      · rw [E3 (by omega) h3]
        have b0 := ofNat_toNat (224 + r / 4096) (by omega) (by omega)
        have b1 := ofNat_toNat (128 + r / 64 % 64) (by omega) (by omega)
        have b2 := ofNat_toNat (128 + r % 64) (by omega) (by omega)
        generalize UInt8.ofNat (224 + r / 4096).toNat = x0 at *
        generalize UInt8.ofNat (128 + r / 64 % 64).toNat = x1 at *
        generalize UInt8.ofNat (128 + r % 64).toNat = x2 at *
        show okL (x0 :: x1 :: x2 :: t) = true ∧ (valL (x0 :: x1 :: x2 :: t) : Int) = r ∧ fit (x0 :: x1 :: x2 :: t) = 3
        have e0 : bt (x0 :: x1 :: x2 :: t) 0 = x0.toNat := rfl
        have e1 : bt (x0 :: x1 :: x2 :: t) 1 = x1.toNat := rfl
        have e2 : bt (x0 :: x1 :: x2 :: t) 2 = x2.toNat := rfl
        have hrow := rowB_cases x0.toNat (by have := x0.toNat_lt; omega)
        have hsz : (rowB x0.toNat).1 = 3 ∧ (rowB x0.toNat).2.1 ≤ x1.toNat ∧ x1.toNat ≤ (rowB x0.toNat).2.2 := by
          rcases hrow with ⟨c, e⟩ | ⟨c, c', e⟩ | ⟨c, e⟩ | ⟨c, c', e⟩ | ⟨c, e⟩ | ⟨c, c', e⟩ | ⟨c, e⟩ | ⟨c, c', e⟩ | ⟨c, e⟩ | ⟨c, e⟩ <;> rw [e] <;> first | (exfalso; omega) | exact ⟨rfl, by simp only; omega, by simp only; omega⟩
        obtain ⟨a, b⟩ := fin (x0 :: x1 :: x2 :: t) 3 (by rw [e0]; exact hsz.1) (by omega) (by simp) (fun j j1 j2 => by
          have : j = 1 ∨ j = 2 := by omega
          rcases this with rfl | rfl
          · unfold goOn; rw [e0, e1, hsz.1]; simp; omega
          · unfold goOn; rw [e0, e2, hsz.1]; simp; omega)
        refine ⟨a, ?_, b⟩
        unfold valL; rw [e0, e1, e2, hsz.1, if_neg (by decide), if_neg (by decide), if_pos rfl, b0, b1, b2]; omega
      · rw [E4 (by omega)]
        have b0 := ofNat_toNat (240 + r / 262144) (by omega) (by omega)
        have b1 := ofNat_toNat (128 + r / 4096 % 64) (by omega) (by omega)
        have b2 := ofNat_toNat (128 + r / 64 % 64) (by omega) (by omega)
        have b3 := ofNat_toNat (128 + r % 64) (by omega) (by omega)
        generalize UInt8.ofNat (240 + r / 262144).toNat = x0 at *
        generalize UInt8.ofNat (128 + r / 4096 % 64).toNat = x1 at *
        generalize UInt8.ofNat (128 + r / 64 % 64).toNat = x2 at *
        generalize UInt8.ofNat (128 + r % 64).toNat = x3 at *
        show okL (x0 :: x1 :: x2 :: x3 :: t) = true ∧ (valL (x0 :: x1 :: x2 :: x3 :: t) : Int) = r ∧ fit (x0 :: x1 :: x2 :: x3 :: t) = 4
        have e0 : bt (x0 :: x1 :: x2 :: x3 :: t) 0 = x0.toNat := rfl
        have e1 : bt (x0 :: x1 :: x2 :: x3 :: t) 1 = x1.toNat := rfl
        have e2 : bt (x0 :: x1 :: x2 :: x3 :: t) 2 = x2.toNat := rfl
        have e3 : bt (x0 :: x1 :: x2 :: x3 :: t) 3 = x3.toNat := rfl
        have hrow := rowB_cases x0.toNat (by have := x0.toNat_lt; omega)
        have hsz : (rowB x0.toNat).1 = 4 ∧ (rowB x0.toNat).2.1 ≤ x1.toNat ∧ x1.toNat ≤ (rowB x0.toNat).2.2 := by
          rcases hrow with ⟨c, e⟩ | ⟨c, c', e⟩ | ⟨c, e⟩ | ⟨c, c', e⟩ | ⟨c, e⟩ | ⟨c, c', e⟩ | ⟨c, e⟩ | ⟨c, c', e⟩ | ⟨c, e⟩ | ⟨c, e⟩ <;> rw [e] <;> first | (exfalso; omega) | exact ⟨rfl, by simp only; omega, by simp only; omega⟩
        obtain ⟨a, b⟩ := fin (x0 :: x1 :: x2 :: x3 :: t) 4 (by rw [e0]; exact hsz.1) (by omega) (by simp) (fun j j1 j2 => by
          have : j = 1 ∨ j = 2 ∨ j = 3 := by omega
          rcases this with rfl | rfl | rfl
          · unfold goOn; rw [e0, e1, hsz.1]; simp; omega
          · unfold goOn; rw [e0, e2, hsz.1]; simp; omega
          · unfold goOn; rw [e0, e3, hsz.1]; simp; omega)
        refine ⟨a, ?_, b⟩
        unfold valL; rw [e0, e1, e2, e3, hsz.1, if_neg (by decide), if_neg (by decide), if_neg (by decide), b0, b1, b2, b3]; omega

end Go.Proofs.YtclcmkklonnalaaGreat.Ut

namespace Go.Proofs.YtclcmkklonnalaaGreat.Ut
open Go.RowKit

theorem bt_append (l t : List UInt8) (j : Nat) (h : j < l.length) : bt (l ++ t) j = bt l j := by
  unfold bt; rw [List.getD_eq_getElem?_getD, List.getD_eq_getElem?_getD, List.getElem?_append_left h]

/-- What begins with a scalar value begins with it, whatever stands behind. -/
theorem ok_append (l t : List UInt8) (h : okL l = true) : okL (l ++ t) = true ∧ fit (l ++ t) = fit l ∧ valL (l ++ t) = valL l := by
  obtain ⟨hne, hf⟩ := (okL_iff l).1 h
  obtain ⟨f1, f4, fg, fn⟩ := fit_spec l
  have fl := fit_le l hne
  have h0 : bt (l ++ t) 0 = bt l 0 := bt_append l t 0 (by omega)
  have hfit : fit (l ++ t) = fit l := by
    refine fit_eq _ _ f1 (fun j a b => ?_) (fun g => ?_)
    · have g := fg j a b
      unfold goOn at g ⊢
      rw [h0, bt_append l t j (by omega), List.length_append]
      omega
    · unfold goOn at g; rw [h0] at g; omega
  refine ⟨(okL_iff _).2 ⟨by simp [hne], by rw [h0, hf, hfit]⟩, hfit, ?_⟩
  unfold valL
  rw [h0, hf]
  by_cases c1 : fit l = 1
  · rw [if_pos c1, if_pos c1]
  · by_cases c2 : fit l = 2
    · rw [if_neg c1, if_pos c2, if_neg c1, if_pos c2, bt_append l t 1 (by omega)]
    · by_cases c3 : fit l = 3
      · rw [if_neg c1, if_neg c2, if_pos c3, if_neg c1, if_neg c2, if_pos c3, bt_append l t 1 (by omega), bt_append l t 2 (by omega)]
      · rw [if_neg c1, if_neg c2, if_neg c3, if_neg c1, if_neg c2, if_neg c3, bt_append l t 1 (by omega), bt_append l t 2 (by omega), bt_append l t 3 (by omega)]

theorem faultF_fuel (l : List UInt8) : ∀ f f' i, l.length ≤ i + f → l.length ≤ i + f' → faultF l f i = faultF l f' i
  | 0, f', i, h, _ => by rw [faultF_end l f' i (by omega)]; rfl
  | f + 1, 0, i, _, h' => by rw [faultF_end l (f + 1) i (by omega)]; rfl
  | f + 1, f' + 1, i, h, h' => by
    simp only [faultF]
    by_cases hi : i < l.length
    · have f1 := (fit_spec (l.drop i)).1
      rw [if_pos hi, if_pos hi, faultF_fuel l f f' (i + fit (l.drop i)) (by omega) (by omega)]
    · rw [if_neg hi, if_neg hi]

theorem countF_fuel (l : List UInt8) : ∀ f f' i, l.length ≤ i + f → l.length ≤ i + f' → countF l f i = countF l f' i
  | 0, f', i, h, _ => by rw [countF_end l f' i (by omega)]; rfl
  | f + 1, 0, i, _, h' => by rw [countF_end l (f + 1) i (by omega)]; rfl
  | f + 1, f' + 1, i, h, h' => by
    simp only [countF]
    by_cases hi : i < l.length
    · have f1 := (fit_spec (l.drop i)).1
      rw [if_pos hi, if_pos hi, countF_fuel l f f' (i + fit (l.drop i)) (by omega) (by omega)]
    · rw [if_neg hi, if_neg hi]

theorem drop_app (a b : List UInt8) (i : Nat) : (a ++ b).drop (a.length + i) = b.drop i := by simp

def shI (n : Nat) (x : Int) : Int := if 0 ≤ x then x + n else -1

theorem faultF_shift (a b : List UInt8) : ∀ f i, faultF (a ++ b) f (a.length + i) = shI a.length (faultF b f i)
  | 0, i => by simp [faultF, shI]
  | f + 1, i => by
    simp only [faultF]
    rw [drop_app, List.length_append]
    by_cases hi : i < b.length
    · rw [if_pos (by omega), if_pos hi]
      by_cases ho : okL (b.drop i) = true
      · rw [if_pos ho, if_pos ho, Nat.add_assoc, faultF_shift a b f]
      · rw [if_neg ho, if_neg ho]; unfold shI; rw [if_pos (by omega)]; omega
    · rw [if_neg (by omega), if_neg hi]; simp [shI]

theorem countF_shift (a b : List UInt8) : ∀ f i, countF (a ++ b) f (a.length + i) = countF b f i
  | 0, i => by simp [countF]
  | f + 1, i => by
    simp only [countF]
    rw [drop_app, List.length_append]
    by_cases hi : i < b.length
    · rw [if_pos (by omega), if_pos hi, Nat.add_assoc, countF_shift a b f]
    · rw [if_neg (by omega), if_neg hi]

/-- Through a well-formed text, one scalar value behind the other. -/
theorem through (a b : List UInt8) : ∀ f i, i ≤ a.length → a.length ≤ i + f → faultF a f i = -1 → faultF (a ++ b) (f + b.length) i = faultF (a ++ b) b.length a.length ∧ countF (a ++ b) (f + b.length) i = countF a f i + countF (a ++ b) b.length a.length
  | 0, i, h1, h2, _ => by
    have : i = a.length := by omega
    subst this
    simp [countF]
  | f + 1, i, h1, h2, h3 => by
    by_cases hi : i < a.length
    · simp only [faultF] at h3
      rw [if_pos hi] at h3
      have hd : (a ++ b).drop i = a.drop i ++ b := List.drop_append_of_le_length (by omega)
      by_cases ho : okL (a.drop i) = true
      · rw [if_pos ho] at h3
        obtain ⟨o1, o2, _⟩ := ok_append (a.drop i) b ho
        have f1 := (fit_spec (a.drop i)).1
        have fl := fit_le (a.drop i) ((okL_iff _).1 ho).1
        rw [List.length_drop] at fl
        obtain ⟨q1, q2⟩ := through a b f (i + fit (a.drop i)) (by omega) (by omega) h3
        have e : f + 1 + b.length = (f + b.length) + 1 := by omega
        rw [e]
        simp only [faultF, countF]
        rw [hd, o1, o2, List.length_append, if_pos (by omega), if_pos rfl, if_pos (by omega), if_pos hi, q1, q2]
        exact ⟨rfl, by omega⟩
      · rw [if_neg ho] at h3
        omega
    · have hil : i = a.length := by omega
      subst hil
      rw [countF_end a (f + 1) a.length (by omega), Nat.zero_add]
      exact ⟨faultF_fuel _ _ _ _ (by simp) (by simp), countF_fuel _ _ _ _ (by simp) (by simp)⟩

theorem faultF_neg (l : List UInt8) : ∀ f i, faultF l f i < 0 → faultF l f i = -1
  | 0, i, _ => rfl
  | f + 1, i, h => by
    simp only [faultF] at h ⊢
    by_cases hi : i < l.length
    · rw [if_pos hi] at h ⊢
      by_cases ho : okL (l.drop i) = true
      · rw [if_pos ho] at h ⊢; exact faultF_neg l f _ h
      · rw [if_neg ho] at h; omega
    · rw [if_neg hi]

theorem joins (a b : List UInt8) (h : faultL a < 0) : faultL (a ++ b) = (if 0 ≤ faultL b then faultL b + a.length else faultL b) ∧ countL (a ++ b) = countL a + countL b := by
  unfold faultL at h
  have h1 := faultF_neg _ _ _ h
  obtain ⟨q1, q2⟩ := through a b a.length 0 (by omega) (by omega) h1
  unfold faultL countL
  rw [List.length_append, q1, q2]
  have s1 := faultF_shift a b b.length 0
  have s2 := countF_shift a b b.length 0
  rw [Nat.add_zero] at s1 s2
  rw [s1, s2]
  refine ⟨?_, rfl⟩
  unfold shI
  by_cases hb : 0 ≤ faultF b b.length 0
  · rw [if_pos hb, if_pos hb]
  · rw [if_neg hb, if_neg hb, faultF_neg b b.length 0 (by omega)]

theorem faultF_lt (l : List UInt8) : ∀ f i, faultF l f i < l.length ∨ faultF l f i = -1
  | 0, i => .inr rfl
  | f + 1, i => by
    simp only [faultF]
    by_cases hi : i < l.length
    · rw [if_pos hi]
      by_cases ho : okL (l.drop i) = true
      · rw [if_pos ho]; exact faultF_lt l f _
      · rw [if_neg ho]; left; omega
    · rw [if_neg hi]; exact .inr rfl
theorem countL_le (l : List UInt8) : countL l ≤ l.length := by have := countF_le l l.length 0 (by omega); unfold countL; omega
end Go.Proofs.YtclcmkklonnalaaGreat.Ut
