import Derived.Test.YthdchapieninbaaEsc5
import Derived.Test.YthdchapieninbaaRng
namespace Go.Proofs.Ythdchapieninbaa
open Go.RowKit

attribute [local go_sem] Oper.semAt_some

/-- All escapes of a text that stands behind k bytes: where each begins, and its octet. -/
def escs (k : Nat) : List UInt8 → List (Nat × UInt8)
  | a :: b :: c :: r => if 0 ≤ atL (a :: b :: c :: r) then (k, octL (a :: b :: c :: r)) :: escs (k + 3) r else escs (k + 1) (b :: c :: r)
  | [_, _] => []
  | [_] => []
  | [] => []

theorem escs_short (k : Nat) (l : List UInt8) (h : l.length ≤ 2) : escs k l = [] := by
  match l, h with
  | [], _ => rfl
  | [_], _ => rfl
  | [_, _], _ => rfl
theorem escs_yes (s : ByteArray) (k : Nat) (h : 0 ≤ atL (s.data.toList.drop k)) : escs k (s.data.toList.drop k) = (k, octL (s.data.toList.drop k)) :: escs (k + 3) (s.data.toList.drop (k + 3)) := by
  have hk := at_fits s k h
  rw [drop3 s k hk] at h ⊢
  rw [escs, if_pos h]
theorem escs_no (s : ByteArray) (k : Nat) (hk : k < s.size) (h : atL (s.data.toList.drop k) < 0) : escs k (s.data.toList.drop k) = escs (k + 1) (s.data.toList.drop (k + 1)) := by
  by_cases hk2 : k + 2 < s.size
  · have e1 : s.data.toList.drop (k + 1) = s[k + 1] :: s[k + 2] :: s.data.toList.drop (k + 3) := by
      rw [drop1 s (k + 1) (by omega), drop1 s (k + 2) hk2]
    rw [e1]
    rw [drop3 s k hk2] at h ⊢
    rw [escs, if_neg (by omega)]
  · rw [escs_short _ (s.data.toList.drop (k + 1)) (by rw [List.length_drop, len_size]; omega), escs_short _ (s.data.toList.drop k) (by rw [List.length_drop, len_size]; omega)]

/-- What is told of an escape. -/
def told (x : Nat × UInt8) : Array Value := #[.int .i64 (x.1 : Int), .int .u8 (x.2.toNat : Int)]
/-- What holds a text keeps it. -/
def Kept1 (Bs : Nat) (W W' : World) : Prop := ∀ v, W.cell? ⟨Bs, 0, none⟩ = some v → W'.cell? ⟨Bs, 0, none⟩ = some v

set_option maxRecDepth 100000 in
set_option maxHeartbeats 2000000 in
theorem all1_tells (n Bs : Nat) (hn : 1 ≤ n) (s : ByteArray) (hs : s.size ≤ maxLen) (w : World) (hBs : Bs < w.heap.size) (hc : w.cell? ⟨Bs, 0, none⟩ = some (.string s)) :
    Tells Fence.wide n Try.prog 47 #[.pointer (some ⟨Bs, 0, none⟩)] told (Kept1 Bs) (fun pre x => ∃ rest, pre ++ x :: rest = escs 0 s.data.toList) (fun xs => xs = escs 0 s.data.toList) w := by
  intro l J W hW hY h0
  have HM := hid hs
  unfold maxLen at hs
  have hcW := (hW.cell (p := ⟨Bs, 0, none⟩) hBs).trans hc
  clear hc hW hBs
  refine callsIn_of_wp Try.func47 rfl trivial ?_ rfl
  simp only [Try.ntmps47, List.size_toArray, List.length_cons, List.length_nil, Nat.reduceAdd, Nat.reduceSub, Array.replicate_succ, Array.replicate_zero, List.push_toArray, List.append_toArray, List.nil_append, List.cons_append]
  gi_wp2
  gi_loopw [3] (fun i wr => ∃ (k : Nat) (pre : List (Nat × UInt8)), k ≤ s.size ∧ i = .int .i64 k ∧ J pre wr ∧ wr.cell? ⟨Bs, 0, none⟩ = some (.string s) ∧ Hid (pre ++ escs k (s.data.toList.drop k) = escs 0 s.data.toList)) (fun i _ => s.size - (intOf i).toNat)
  case atStart => exact ⟨0, [], Nat.zero_le _, rfl, h0, hcW, rfl⟩
  case round =>
    obtain ⟨k, pre, hk, rfl, hJ, hcell, hin⟩ := hrel
    clear hcW h0
    by_cases hlt : k < s.size
    · have h1 := hin.out
      by_cases ha : 0 ≤ atL (s.data.toList.drop k)
      · have hk2 := at_fits s k ha
        rw [escs_yes s k ha] at h1
        have hA := fun w => at_yes s k w HM.out ha
        have ho := octL_is _ ha
        rw [← ho] at hA
        have H : Hid ((pre ++ [(k, octL (s.data.toList.drop k))]) ++ escs (k + 3) (s.data.toList.drop (k + 3)) = escs 0 s.data.toList) := by
          show _ = _; rw [List.append_assoc]; exact h1
        have HY := hY pre (k, octL (s.data.toList.drop k)) wr hJ ⟨_, h1⟩
        generalize octL (s.data.toList.drop k) = c at *
        have HA := hid hA
        clear ho ha hin h1 hA
        obtain ⟨fn, tmps, assign, body, hy, hR⟩ := HY
        unfold told at hy
        dsimp only at hy
        gi_wp2_with (first | (refine ⟨trivial, ?_⟩; gi_at_call 17; refine (callsIn_wide.2 (HA.out _)).mono ?_; rintro e w' ⟨rfl, rfl⟩))
        refine hR.mono ?_
        rintro e W3 ⟨rfl, hJ3, hk3⟩
        have hcell3 := hk3 _ hcell
        gi_wp2_with fail
        go_roundw
        case rel => exact ⟨k + 3, _, by omega, by go_num, hJ3, hcell3, H⟩
        case measure => simp [intOf]; omega
      · have ha' : atL (s.data.toList.drop k) < 0 := by omega
        rw [escs_no s k hlt ha'] at h1
        have H := hid h1
        have HA := hid (fun w => at_no s k w HM.out hk ha')
        clear hin h1 ha ha'
        gi_wp2_with (first | (refine ⟨trivial, ?_⟩; gi_at_call 17; refine (callsIn_wide.2 (HA.out _)).mono ?_; rintro e w' ⟨rfl, rfl⟩))
        go_roundw
        case rel => exact ⟨k + 1, _, by omega, by go_num, hJ, hcell, H⟩
        case measure => simp [intOf]; omega
    · have H : Hid (pre = escs 0 s.data.toList) := by
        have h1 := hin.out
        rw [drop_end s k (by omega)] at h1
        show _ = _; simpa [escs] using h1
      clear hin
      gi_wp2_with fail
      go_end0
      exact ⟨⟨_, rfl⟩, _, H.out, hJ⟩
end Go.Proofs.Ythdchapieninbaa
