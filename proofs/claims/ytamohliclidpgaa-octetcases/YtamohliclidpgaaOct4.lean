import Derived.Test.YtamohliclidpgaaOct3
import Derived.Lib.BufSteps
import Derived.Lib.BufferRead
namespace Go.Proofs.Ytamohliclidpgaa
open Go.RowKit

def u8s (l : List UInt8) : List Value := l.map fun x => .int .u8 (x.toNat : Int)

theorem u8s_snoc (l : List UInt8) (x : UInt8) : u8s (l ++ [x]) = u8s l ++ [.int .u8 (x.toNat : Int)] := by simp [u8s]

theorem Try.info_u8 : (Try.prog.info? 5).map (fun i => (i.zero, i.size, i.bytes)) = some (some (.int .u8 0), 1, 1) := by kernel_rfl

/-- What is owned, as a string. -/
theorem conv_own {w : World} {B : Nat} {e : TypeId} {v : Value} {l : List UInt8} (h : w.ownsRowF B e 1 v l.length (u8s l)) : (convert 38 9 v).run Try.prog w = .ok (.string ⟨l.toArray⟩) w := by
  rcases h.2 with ⟨rfl, hn⟩ | ⟨g, cap, cur, fz, rfl, _, _, _⟩
  · have : l = [] := List.eq_nil_of_length_eq_zero hn
    subst this
    exact Lib.run_convert_nil_bytes w 38 9 5 0 Try.underlying38 Try.underlying5 Try.underlying9
  · refine run_convert_bytes_back w 38 9 5 ⟨g, 0, none⟩ cap l Try.underlying38 Try.underlying5 Try.underlying9 fun j hj => ?_
    exact h.cells rfl j _ (by simp [u8s, hj])

theorem up_all : ((List.range 256).all fun n => inB (n : Int) [65, 66, 67, 68, 69, 70, 71, 72, 73, 74, 75, 76, 77, 78, 79, 80, 81, 82, 83, 84, 85, 86, 87, 88, 89, 90] == upB (n : Int)) = true := by decide +kernel
theorem low_all : ((List.range 256).all fun n => inB (n : Int) [97, 98, 99, 100, 101, 102, 103, 104, 105, 106, 107, 108, 109, 110, 111, 112, 113, 114, 115, 116, 117, 118, 119, 120, 121, 122] == lowB (n : Int)) = true := by decide +kernel
theorem up_in (c : UInt8) : inB (c.toNat : Int) [65, 66, 67, 68, 69, 70, 71, 72, 73, 74, 75, 76, 77, 78, 79, 80, 81, 82, 83, 84, 85, 86, 87, 88, 89, 90] = upB (c.toNat : Int) := by
  have := List.all_eq_true.1 up_all c.toNat (by have := c.toNat_lt; simp; omega)
  simpa using this
theorem low_in (c : UInt8) : inB (c.toNat : Int) [97, 98, 99, 100, 101, 102, 103, 104, 105, 106, 107, 108, 109, 110, 111, 112, 113, 114, 115, 116, 117, 118, 119, 120, 121, 122] = lowB (c.toNat : Int) := by
  have := List.all_eq_true.1 low_all c.toNat (by have := c.toNat_lt; simp; omega)
  simpa using this

theorem own_snoc {B : Nat} {e : TypeId} {v : Value} {k : Nat} {s : ByteArray} {f : UInt8 → UInt8} {x : Int} {W0 w : World} (hk : k < s.size) (hx : x = ((f s[k]).toNat : Int))
    (h : Lib.OwnBuf B e v (k + 1) (u8s ((s.data.toList.take k).map f) ++ [.int .u8 x]) W0 w) : Lib.OwnBuf B e v (k + 1) (u8s ((s.data.toList.take (k + 1)).map f)) W0 w := by
  rw [take_snoc s k hk, List.map_append, List.map_cons, List.map_nil, u8s_snoc, ← hx]; exact h

set_option maxHeartbeats 1000000 in
theorem rlower_any (s : ByteArray) (w : World) (hs : s.size ≤ 140737488351232) :
    Calls Try.prog 14 #[.string s] w fun e w' => e = .returned (.string (lowS s)) ∧ Below w.heap.size w w' := by
  obtain ⟨i0, hi, hz0, hz1, hz2⟩ := info_parts Try.info_u8
  go_enter Try.func14, Try.ntmps14
  go_wp2
  go_loopw [3, 4] (fun v i wr => ∃ k : Nat, k ≤ s.size ∧ i = .int .i64 k ∧ Lib.OwnBuf w.heap.size 5 v k (u8s ((s.data.toList.take k).map lowU)) w wr) (fun _ i _ => s.size - (intOf i).toNat)
  case atStart => exact ⟨0, Nat.zero_le _, rfl, World.ownsRowF_nil _ _ _ _, Below.refl _ _, Nat.le_refl _⟩
  case round =>
    obtain ⟨k, hk, rfl, hb⟩ := hrel
    by_cases hlt : k < s.size
    · have hb' := fun (v : Value) (x : Int) (w' : World) => own_snoc (B := w.heap.size) (e := 5) (v := v) (x := x) (f := lowU) (W0 := w) (w := w') hlt
      have HB : Hid (∀ (v : Value) (x : Int) (w' : World), x = ((lowU s[k]).toNat : Int) → Lib.OwnBuf w.heap.size 5 v (k + 1) (u8s ((s.data.toList.take k).map lowU) ++ [.int .u8 x]) w w' → Lib.OwnBuf w.heap.size 5 v (k + 1) (u8s ((s.data.toList.take (k + 1)).map lowU)) w w') := hb'
      clear hb'
      have hin := up_in s[k]
      have H1 := byte_le s[k]
      have hbv : Hid (Lib.OwnBuf w.heap.size 5 _ k (u8s ((s.data.toList.take k).map lowU)) w wr) := hb
      clear hb
      by_cases hu : upB (s[k].toNat : Int) = true
      · obtain ⟨g1, g2⟩ := of_decide_eq_true hu
        have hup := lowU_up s[k] hu
        have HU : Hid (((lowU s[k]).toNat : Int) = _) := hup
        clear hup
        rw [hu] at hin
        go_wp2_with (first | (go_at_call 20; refine (in_any _ _ _ (by decide)).mono ?_; rintro e w' ⟨rfl, rfl⟩) | (at_builtin; refine Lib.wpList_append_byte rfl (.tmp 19) (.tmp 21) 38 rfl w.heap.size 5 i0 Try.underlying38 hi hz0 hz1 hz2 _ k _ rfl w _ _ hbv.out rfl (by omega) ?_; intro v' w1 hb1))
        all_goals
          go_roundw
          case rel => exact ⟨k + 1, by omega, by go_num, HB.out _ _ _ HU.out.symm hb1⟩
          case measure => simp [intOf]; omega
      · have hu' : upB (s[k].toNat : Int) = false := by simpa using hu
        have hno := lowU_no s[k] hu'
        have HU : Hid (lowU s[k] = _) := hno
        clear hno hu
        rw [hu'] at hin
        go_wp2_with (first | (go_at_call 20; refine (in_any _ _ _ (by decide)).mono ?_; rintro e w' ⟨rfl, rfl⟩) | (at_builtin; refine Lib.wpList_append_byte rfl (.tmp 19) (.tmp 21) 38 rfl w.heap.size 5 i0 Try.underlying38 hi hz0 hz1 hz2 _ k _ rfl w _ _ hbv.out rfl (by omega) ?_; intro v' w1 hb1))
        all_goals
          go_roundw
          case rel => exact ⟨k + 1, by omega, by go_num, HB.out _ _ _ (by rw [HU.out]) hb1⟩
          case measure => simp [intOf]; omega
    · have e1 : s.data.toList.take k = s.data.toList := List.take_of_length_le (by simp; omega)
      rw [e1] at hb
      have hk' : k = (s.data.toList.map lowU).length := by simp; omega
      have hown := hb.1
      rw [hk'] at hown
      have hback := conv_own hown
      have hr : Hid ((⟨(s.data.toList.map lowU).toArray⟩ : ByteArray) = lowS s) := rfl
      have hbl := hb.2.1
      generalize (⟨(s.data.toList.map lowU).toArray⟩ : ByteArray) = r at *
      clear e1 hk' hown hb
      go_wp2
      go_ret
      exact ⟨ret_string hr.out, hbl⟩

set_option maxHeartbeats 1000000 in
theorem rupper_any (s : ByteArray) (w : World) (hs : s.size ≤ 140737488351232) :
    Calls Try.prog 15 #[.string s] w fun e w' => e = .returned (.string (highS s)) ∧ Below w.heap.size w w' := by
  obtain ⟨i0, hi, hz0, hz1, hz2⟩ := info_parts Try.info_u8
  go_enter Try.func15, Try.ntmps15
  go_wp2
  go_loopw [3, 4] (fun v i wr => ∃ k : Nat, k ≤ s.size ∧ i = .int .i64 k ∧ Lib.OwnBuf w.heap.size 5 v k (u8s ((s.data.toList.take k).map highU)) w wr) (fun _ i _ => s.size - (intOf i).toNat)
  case atStart => exact ⟨0, Nat.zero_le _, rfl, World.ownsRowF_nil _ _ _ _, Below.refl _ _, Nat.le_refl _⟩
  case round =>
    obtain ⟨k, hk, rfl, hb⟩ := hrel
    by_cases hlt : k < s.size
    · have hb' := fun (v : Value) (x : Int) (w' : World) => own_snoc (B := w.heap.size) (e := 5) (v := v) (x := x) (f := highU) (W0 := w) (w := w') hlt
      have HB : Hid (∀ (v : Value) (x : Int) (w' : World), x = ((highU s[k]).toNat : Int) → Lib.OwnBuf w.heap.size 5 v (k + 1) (u8s ((s.data.toList.take k).map highU) ++ [.int .u8 x]) w w' → Lib.OwnBuf w.heap.size 5 v (k + 1) (u8s ((s.data.toList.take (k + 1)).map highU)) w w') := hb'
      clear hb'
      have hin := low_in s[k]
      have H1 := byte_le s[k]
      have hbv : Hid (Lib.OwnBuf w.heap.size 5 _ k (u8s ((s.data.toList.take k).map highU)) w wr) := hb
      clear hb
      by_cases hu : lowB (s[k].toNat : Int) = true
      · obtain ⟨g1, g2⟩ := of_decide_eq_true hu
        have hup := highU_low s[k] hu
        have HU : Hid (((highU s[k]).toNat : Int) = _) := hup
        clear hup
        rw [hu] at hin
        go_wp2_with (first | (go_at_call 20; refine (in_any _ _ _ (by decide)).mono ?_; rintro e w' ⟨rfl, rfl⟩) | (at_builtin; refine Lib.wpList_append_byte rfl (.tmp 19) (.tmp 21) 38 rfl w.heap.size 5 i0 Try.underlying38 hi hz0 hz1 hz2 _ k _ rfl w _ _ hbv.out rfl (by omega) ?_; intro v' w1 hb1))
        all_goals
          go_roundw
          case rel => exact ⟨k + 1, by omega, by go_num, HB.out _ _ _ HU.out.symm hb1⟩
          case measure => simp [intOf]; omega
      · have hu' : lowB (s[k].toNat : Int) = false := by simpa using hu
        have hno := highU_no s[k] hu'
        have HU : Hid (highU s[k] = _) := hno
        clear hno hu
        rw [hu'] at hin
        go_wp2_with (first | (go_at_call 20; refine (in_any _ _ _ (by decide)).mono ?_; rintro e w' ⟨rfl, rfl⟩) | (at_builtin; refine Lib.wpList_append_byte rfl (.tmp 19) (.tmp 21) 38 rfl w.heap.size 5 i0 Try.underlying38 hi hz0 hz1 hz2 _ k _ rfl w _ _ hbv.out rfl (by omega) ?_; intro v' w1 hb1))
        all_goals
          go_roundw
          case rel => exact ⟨k + 1, by omega, by go_num, HB.out _ _ _ (by rw [HU.out]) hb1⟩
          case measure => simp [intOf]; omega
    · have e1 : s.data.toList.take k = s.data.toList := List.take_of_length_le (by simp; omega)
      rw [e1] at hb
      have hk' : k = (s.data.toList.map highU).length := by simp; omega
      have hown := hb.1
      rw [hk'] at hown
      have hback := conv_own hown
      have hr : Hid ((⟨(s.data.toList.map highU).toArray⟩ : ByteArray) = highS s) := rfl
      have hbl := hb.2.1
      generalize (⟨(s.data.toList.map highU).toArray⟩ : ByteArray) = r at *
      clear e1 hk' hown hb
      go_wp2
      go_ret
      exact ⟨ret_string hr.out, hbl⟩

end Go.Proofs.Ytamohliclidpgaa
