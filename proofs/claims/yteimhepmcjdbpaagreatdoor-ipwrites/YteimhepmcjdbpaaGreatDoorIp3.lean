import Derived.Test.YteimhepmcjdbpaaGreatDoorIp1
namespace Go.Proofs.YteimhepmcjdbpaaGreatDoor
open Go.RowKit
namespace Ip

theorem hid {p : Prop} (h : p) : Hid p := h
theorem dgt_bd {x : UInt8} (h : dgt x = true) : 48 ≤ x.toNat ∧ x.toNat ≤ 57 := of_decide_eq_true h
theorem all_at {p : UInt8 → Bool} {s : ByteArray} (h : s.data.toList.all p = true) (k : Nat) (hk : k < s.size) : p s[k] = true :=
  List.all_eq_true.1 h _ (List.getElem_mem (l := s.data.toList) (by rw [len_size]; exact hk))
theorem all_take {p : UInt8 → Bool} {l : List UInt8} (h : l.all p = true) (k : Nat) : (l.take k).all p = true := by
  rw [List.all_eq_true] at h ⊢
  exact fun x hx => h x (List.mem_of_mem_take hx)
theorem empty_no (s : ByteArray) (h : 0 < s.size) : s.toList.isEmpty = false := by
  rw [ByteArray.toList_eq]
  cases e : s.data.toList with
  | nil => rw [← len_size, e] at h; exact absurd h (Nat.lt_irrefl _)
  | cons a l => rfl

set_option maxRecDepth 100000 in
set_option maxHeartbeats 2000000 in
theorem atoiI_any (s : ByteArray) (w : World) (h0 : 0 < s.size) (h3 : s.size ≤ 3) (hd : s.data.toList.all dgt = true) :
    Calls Tryz.prog 58 #[.string s] w fun e w' => e = .returned (.tuple #[.int .i64 (decI s.data.toList), .nilIface]) ∧ Below w.heap.size w w' := by
  have hconv := run_bytes_of_string (P := Tryz.prog) w 9 64 5 s Tryz.underlying9 Tryz.underlying64 Tryz.underlying5
  have hL := Lies.conv w s (grownCap w s.size 0 5) 5
  have hB := Below.conv w (.cells (bytesRow s (grownCap w s.size 0 5)) 5 ((bytesRow s (grownCap w s.size 0 5)).size, (bytesRow s (grownCap w s.size 0 5)).size + 1))
  generalize grownCap w s.size 0 5 = cap at *
  generalize bytesRow s cap = C at *
  have HL := hid hL
  have HB := hid hB
  have HD := hid hd
  have hb0 := dgt_bd (all_at hd 0 h0)
  have f1 : ((s[0].toNat : Int) == 45) = false := by rw [beq_eq_false_iff_ne]; omega
  have f2 : ((s[0].toNat : Int) == 43) = false := by rw [beq_eq_false_iff_ne]; omega
  clear hL hB hd hb0
  go_enter Tryz.func58, Tryz.ntmps58
  go_wp2
  go_loop [6, 49] (fun n i => ∃ k : Nat, k ≤ s.size ∧ n = .int .i64 (decI (s.data.toList.take k)) ∧ i = .int .i64 k) (fun _ i => s.size - (intOf i).toNat)
  case atStart => exact ⟨0, Nat.zero_le _, rfl, rfl⟩
  case round =>
    obtain ⟨k, hk, rfl, rfl⟩ := hrel
    by_cases hlt : k < s.size
    · have hc := (HL.out k (by rw [len_size]; exact hlt)).1
      have hb := dgt_bd (all_at HD.out k hlt)
      have hn := decI_bd (s.data.toList.take k) (by rw [List.length_take, len_size]; omega) (all_take HD.out k)
      have HN : Hid (decI (s.data.toList.take (k + 1)) = decI (s.data.toList.take k) * 10 + ((s[k].toNat : Int) - 48)) := by
        show _ = _; rw [take_snoc s k hlt, decI_snoc]
      have e0 : s.data.toList[k]'(by rw [len_size]; exact hlt) = s[k] := rfl
      rw [e0] at hc
      generalize s[k].toNat = x at *
      generalize decI (s.data.toList.take k) = n at *
      have e1 : ((x : Int) - 48) % 256 = (x : Int) - 48 := by omega
      go_wp2
      go_round
      case rel => exact ⟨k + 1, by omega, by rw [HN.out], by go_num⟩
      case measure => simp [intOf]; omega
    · have e : s.data.toList.take k = s.data.toList := List.take_of_length_le (by rw [len_size]; omega)
      rw [e]
      go_wp2
      go_ret2
      exact ⟨rfl, HB.out⟩

theorem atoi_any (s : ByteArray) (w : World) (h0 : 0 < s.size) (h3 : s.size ≤ 3) (hd : s.data.toList.all dgt = true) :
    Calls Tryz.prog 41 #[.string s] w fun e w' => e = .returned (.tuple #[.int .i64 (decI s.data.toList), .nilIface]) ∧ Below w.heap.size w w' := by
  have hok := Ok.start w
  have HA := hid (fun w => atoiI_any s w h0 h3 hd)
  clear hd
  generalize decI s.data.toList = n at *
  go_enter Tryz.func41, Tryz.ntmps41
  go_wp2_with fail
  refine (HA.out _).mono ?_
  rintro e w' ⟨rfl, hb'⟩
  replace hok := hok.step hb'
  clear hb'
  go_wp2_with fail
  go_ret2
  exact ⟨rfl, hok.1⟩

theorem dgt_is : ((List.range 256).all fun n => isB (n : Int) 2 == dgt (UInt8.ofNat n)) = true := by decide +kernel
theorem isB_dgt (x : UInt8) : isB (x.toNat : Int) 2 = dgt x := by
  have := List.all_eq_true.1 dgt_is x.toNat (by have := x.toNat_lt; simp; omega)
  simpa using this
theorem tw_all (p : UInt8 → Bool) : ∀ l : List UInt8, l.all p = true → l.takeWhile p = l
  | [], _ => rfl
  | a :: l, h => by
    rw [List.all_cons, Bool.and_eq_true] at h
    rw [List.takeWhile_cons, if_pos h.1, tw_all p l h.2]
theorem span_all (c : Int) (p : UInt8 → Bool) (hp : ∀ x : UInt8, isB x.toNat c = p x) (l : List UInt8) : spanN c l = l.length ↔ l.all p = true := by
  unfold spanN
  rw [show (fun x : UInt8 => isB x.toNat c) = p from funext hp]
  constructor
  · intro h
    have h2 := List.takeWhile_append_dropWhile (p := p) (l := l)
    have h3 : (l.dropWhile p).length = 0 := by
      have := congrArg List.length h2
      rw [List.length_append] at this; omega
    have h4 : l.dropWhile p = [] := List.eq_nil_of_length_eq_zero h3
    rw [h4, List.append_nil] at h2
    rw [← h2]
    exact List.all_takeWhile
  · intro h
    rw [tw_all p l h]
theorem span_le (c : Int) (l : List UInt8) : spanN c l ≤ l.length := by unfold spanN; exact (List.takeWhile_sublist _).length_le

/-- What the digits between two full stops say: the number, or nothing. -/
def nuV (l : List UInt8) : Int := if 0 ≤ nuL l then nuL l else 0

theorem nuL_no (l : List UInt8) (h : ¬ (l ≠ [] ∧ l.length ≤ 3 ∧ l.all dgt = true ∧ (l.head? = some 48 → l.length = 1) ∧ decI l ≤ 255)) : nuL l = -1 := if_neg h
theorem nuL_yes (l : List UInt8) (h : l ≠ [] ∧ l.length ≤ 3 ∧ l.all dgt = true ∧ (l.head? = some 48 → l.length = 1) ∧ decI l ≤ 255) : nuL l = decI l := if_pos h
theorem head_at (s : ByteArray) (h : 0 < s.size) : s.data.toList.head? = some s[0] := by
  rw [List.head?_eq_getElem?, List.getElem?_eq_getElem (by rw [len_size]; exact h)]; rfl

set_option maxHeartbeats 2000000 in
theorem num_any (s : ByteArray) (w : World) (hs : s.size ≤ maxLen) :
    Calls Tryz.prog 20 #[.string s] w fun e w' => e = .returned (.tuple #[.int .u8 (nuV s.data.toList), .bool (decide (0 ≤ nuL s.data.toList))]) ∧ Below w.heap.size w w' := by
  have hok := Ok.start w
  have bad : nuL s.data.toList = -1 → Hid (nuV s.data.toList = 0 ∧ decide (0 ≤ nuL s.data.toList) = false) := by
    intro h; unfold nuV; rw [h]; exact ⟨rfl, rfl⟩
  by_cases h0 : 0 < s.size
  · have HE := empty_no s h0
    by_cases h3 : s.size ≤ 3
    · have HSp := hid (fun w => span_any s 2 w hs)
      have hsl := span_all 2 dgt isB_dgt s.data.toList
      have hle := span_le 2 s.data.toList
      rw [len_size] at hsl hle
      unfold maxLen at hs
      by_cases hd : s.data.toList.all dgt = true
      · have e1 := hsl.2 hd
        rw [e1] at HSp
        have hb0 := dgt_bd (all_at hd 0 h0)
        by_cases hz : s[0].toNat = 48 ∧ 1 < s.size
        · obtain ⟨hz, hz2⟩ := hz
          have H := bad (nuL_no _ (fun h => by
            have h1 := h.2.2.2.1 (by rw [head_at s h0]; congr 1; exact UInt8.toNat_inj.1 hz)
            rw [len_size] at h1; omega))
          have hz' : ((s[0].toNat : Int) == 48) = true := by rw [beq_iff_eq]; omega
          clear bad hsl hle hd e1 hb0 hz
          go_enter Tryz.func20, Tryz.ntmps20
          go_wp2_with fail
          refine (HSp.out _).mono ?_
          rintro e w' ⟨rfl, rfl⟩
          go_wp2_with fail
          go_ret2
          exact ⟨by rw [H.out.1, H.out.2]; rfl, hok.1⟩
        · have hzz : (((s[0].toNat : Int) == 48) = true ∧ s.size = 1) ∨ ((s[0].toNat : Int) == 48) = false := by
            by_cases h : s[0].toNat = 48
            · left; exact ⟨by rw [beq_iff_eq]; omega, by omega⟩
            · right; rw [beq_eq_false_iff_ne]; omega
          have HA := hid (fun w => atoi_any s w h0 h3 hd)
          have hbd := decI_bd s.data.toList (by rw [len_size]; exact h3) hd
          have hne : s.data.toList ≠ [] := by intro e; rw [← len_size, e] at h0; exact absurd h0 (Nat.lt_irrefl _)
          have hhd : s.data.toList.head? = some 48 → s.data.toList.length = 1 := by
            intro h; rw [head_at s h0] at h
            have h48 : s[0].toNat = 48 := by rw [Option.some.inj h]; rfl
            rw [len_size]; omega
          by_cases h255 : decI s.data.toList ≤ 255
          · have hy := nuL_yes s.data.toList ⟨hne, by rw [len_size]; exact h3, hd, hhd, h255⟩
            have H : Hid (nuV s.data.toList = decI s.data.toList ∧ decide (0 ≤ nuL s.data.toList) = true) := by
              unfold nuV; rw [hy, if_pos hbd.1]; exact ⟨rfl, decide_eq_true hbd.1⟩
            clear bad hsl hle hd e1 hb0 hz hy hne hhd
            generalize decI s.data.toList = n at *
            have hm : n % 256 = n := by omega
            rcases hzz with ⟨hz1, hz2⟩ | hz1
            all_goals
              go_enter Tryz.func20, Tryz.ntmps20
              go_wp2_with fail
              refine (HSp.out _).mono ?_
              rintro e w' ⟨rfl, rfl⟩
              go_wp2_with fail
              refine (HA.out _).mono ?_
              rintro e w' ⟨rfl, hb'⟩
              replace hok := hok.step hb'
              clear hb'
              go_wp2_with fail
              go_ret2
              exact ⟨by rw [H.out.1, H.out.2]; rfl, hok.1⟩
          · have H := bad (nuL_no _ (fun h => h255 h.2.2.2.2))
            clear bad hsl hle hd e1 hb0 hz hne hhd
            generalize decI s.data.toList = n at *
            rcases hzz with ⟨hz1, hz2⟩ | hz1
            all_goals
              go_enter Tryz.func20, Tryz.ntmps20
              go_wp2_with fail
              refine (HSp.out _).mono ?_
              rintro e w' ⟨rfl, rfl⟩
              go_wp2_with fail
              refine (HA.out _).mono ?_
              rintro e w' ⟨rfl, hb'⟩
              replace hok := hok.step hb'
              clear hb'
              go_wp2_with fail
              go_ret2
              exact ⟨by rw [H.out.1, H.out.2]; rfl, hok.1⟩
      · have e1 : spanN 2 s.data.toList < s.size := by
          have : spanN 2 s.data.toList ≠ s.size := fun e => hd (hsl.1 e)
          omega
        have H := bad (nuL_no _ (fun h => hd h.2.2.1))
        clear bad hsl hle hd
        generalize spanN 2 s.data.toList = n at *
        have e2 : (n : Int) < (s.size : Int) := by omega
        go_enter Tryz.func20, Tryz.ntmps20
        go_wp2_with fail
        refine (HSp.out _).mono ?_
        rintro e w' ⟨rfl, rfl⟩
        go_wp2_with fail
        go_ret2
        exact ⟨by rw [H.out.1, H.out.2]; rfl, hok.1⟩
    · have H := bad (nuL_no _ (fun h => h3 (by rw [← len_size]; exact h.2.1)))
      unfold maxLen at hs
      clear bad
      go_enter Tryz.func20, Tryz.ntmps20
      go_wp2
      go_ret2
      exact ⟨by rw [H.out.1, H.out.2]; rfl, hok.1⟩
  · have e : s.data.toList = [] := List.eq_nil_of_length_eq_zero (by rw [len_size]; omega)
    have HE : s.toList.isEmpty = true := by rw [ByteArray.toList_eq, e]; rfl
    have H := bad (nuL_no _ (fun h => h.1 e))
    clear bad
    go_enter Tryz.func20, Tryz.ntmps20
    go_wp2
    go_ret2
    exact ⟨by rw [H.out.1, H.out.2]; rfl, hok.1⟩
end Ip
end Go.Proofs.YteimhepmcjdbpaaGreatDoor
