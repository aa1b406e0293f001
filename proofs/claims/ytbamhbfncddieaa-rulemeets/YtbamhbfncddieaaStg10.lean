import Derived.Test.YtbamhbfncddieaaStg9
import Derived.BigQuiet
import Derived.Deep.QuietTactic
namespace Go.Proofs.Ytbamhbfncddieaa.Uc
open Go.RowKit

theorem flat_at : ∀ (bl : List (List Nat)) (q j : Nat) (b : List Nat) (n : Nat), (∀ b ∈ bl, b.length = 256) → bl[q]? = some b → b[j]? = some n → j < 256 → (bl.flatMap u16s)[q * 256 + j]? = some (.int .u16 (n : Int))
  | [], _, _, _, _, _, h, _, _ => by simp at h
  | c :: bl, 0, j, b, n, hl, h, hn, hj => by
    simp at h; subst h
    have : c.length = 256 := hl c (by simp)
    rw [List.flatMap_cons, Nat.zero_mul, Nat.zero_add, List.getElem?_append_left (by rw [u16s_len]; omega)]
    simp [u16s, hn]
  | c :: bl, q + 1, j, b, n, hl, h, hn, hj => by
    have hc : c.length = 256 := hl c (by simp)
    rw [List.flatMap_cons, List.getElem?_append_right (by rw [u16s_len]; omega), u16s_len]
    have e : (q + 1) * 256 + j - c.length = q * 256 + j := by omega
    rw [e]
    exact flat_at bl q j b n (fun b hb => hl b (by simp [hb])) (by simpa using h) hn hj

section
variable {w : World} {p : Nat} {l : List (SRow Tr)} {other : Tr} {f : Nat → Value} {vals : List Tr} {nr : List (SRow Nat)} {bl : List (List Nat)} {pl : List Nat}

theorem TabP.read (h : TabP w p l other f vals nr bl pl) (i j : Nat) (hi : i < 4352) (hj : j < 256) : ∃ g cap q, w.cell? ⟨p, 1, none⟩ = some (.slice (some ⟨g, 0, none⟩) bl.length cap) ∧ w.cell? ⟨p, 2 + i, none⟩ = some (.int .u16 (q : Nat)) ∧ q < bl.length ∧ bl.length ≤ 4352 ∧
    w.cell? ⟨g, q * 256 + j, none⟩ = some (.int .u16 (at' 0 nr (256 * (i : Int) + j) : Nat)) := by
  have hpl : i < pl.length := by rw [h.laid.len]; exact hi
  have hq := h.laid.at' i pl[i] (List.getElem?_eq_getElem hpl)
  have hlt := (List.getElem?_eq_some_iff.1 hq).1
  obtain ⟨B, ho⟩ := h.blk
  have hlen : ∀ b ∈ bl, b.length = 256 := fun b hb => by
    obtain ⟨k, _, rfl⟩ := h.laid.used b hb
    simp [blkN]
  rcases ho.2 with ⟨_, h2⟩ | ⟨g, cap, cur, e, h2, h3, h4, h5, h6, h7⟩
  · omega
  · refine ⟨g, cap, pl[i], ?_, ?_, hlt, h.laid.most, ?_⟩
    · rw [h.row.cell (by omega), e]
    · rw [h.row.cell (by omega), h.plc i hi]
      simp [List.getD_eq_getElem?_getD, List.getElem?_eq_getElem hpl]
    · rw [e] at ho
      rw [ho.cellAt (pl[i] * 256 + j) (by omega)]
      exact flat_at bl pl[i] j _ _ hlen hq (by simp [blkN, hj]) hj

theorem TabP.num (h : TabP w p l other f vals nr bl pl) (r : Int) : vals[at' 0 nr r]? = some (at' other l r) :=
  at_num vals l nr other 0 r h.numd.len h.numd.same h.numd.head

set_option maxHeartbeats 1000000 in
theorem at_any (h : TabP w p l other f vals nr bl pl) (r : Int) (h0 : 0 ≤ r) (h1 : r ≤ 1114111) :
    Calls Try.prog 64 #[.pointer (some ⟨p, 0, none⟩), .int .i32 r] w fun e w' => e = .returned (.int .u16 (at' 0 nr r : Nat)) ∧ ∃ n, w' = w.drewN n := by
  obtain ⟨i, j, hi, hj, rfl⟩ : ∃ i j : Nat, i < 4352 ∧ j < 256 ∧ r = 256 * (i : Int) + j := ⟨(r / 256).toNat, (r % 256).toNat, by omega, by omega, by omega⟩
  obtain ⟨g, cap, q, c1, c2, hq, hbl, c3⟩ := h.read i j hi hj
  clear h
  generalize at' 0 nr (256 * (i : Int) + j) = n at *
  have q1 : (256 * (i : Int) + j).tdiv 256 = (i : Int) := by rw [Int.tdiv_eq_ediv_of_nonneg h0]; omega
  have q2 : (256 * (i : Int) + j).tmod 256 = (j : Int) := by rw [Int.tmod_eq_emod_of_nonneg h0]; omega
  have q3 : wrap32 (i : Int) = (i : Int) := by unfold wrap32; omega
  have q4 : wrap32 (j : Int) = (j : Int) := by unfold wrap32; omega
  have q5 : IntKind.i32.wrap (i : Int) = (i : Int) := by rw [IntKind.wrap_i32]; omega
  have q6 : IntKind.i32.wrap (j : Int) = (j : Int) := by rw [IntKind.wrap_i32]; omega
  have b1 : (0 : Int) ≤ i ∧ (i : Int) < 4352 := by omega
  have b2 : (0 : Int) ≤ j ∧ (j : Int) < 256 := by omega
  have b3 : (0 : Int) ≤ q ∧ (q : Int) < (bl.length : Int) := by omega
  go_enter Try.func64, Try.ntmps64
  go_wp2
  go_quiet (fail)
  go_wp2
  go_ret
  exact ⟨rfl, _, rfl⟩
end
end Go.Proofs.Ytbamhbfncddieaa.Uc
