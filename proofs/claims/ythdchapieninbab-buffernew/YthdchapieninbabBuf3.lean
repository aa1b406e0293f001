import Derived.Test.YthdchapieninbabBuf2
import Derived.Lib.BufferRead
namespace Go.Proofs.Ythdchapieninbab
open Go.RowKit

section
variable {B b : Nat} {l : List UInt8} {room : Nat} {full : Bool} {w : World}

theorem Kept.conv {ao : Option Addr} {cap : Nat} (h : Kept w B b l ao cap) : (convert 42 9 (.slice ao l.length cap)).run Try.prog w = .ok (.string ⟨l.toArray⟩) w := by
  rcases h with ⟨rfl, rfl, rfl⟩ | ⟨g, cur, rfl, _, _, hg, h1, h2, _, h3⟩
  · exact Lib.run_convert_nil_bytes w 42 9 5 0 Try.underlying42 Try.underlying5 Try.underlying9
  · refine run_convert_bytes_back w 42 9 5 ⟨g, 0, none⟩ cap l Try.underlying42 Try.underlying5 Try.underlying9 fun j hj => ?_
    have e : w.cell? ⟨g, j, none⟩ = some (.int .u8 (l[j].toNat : Int)) := by
      have h4 : cur[j]? = some (.int .u8 (l[j].toNat : Int)) := by
        have h5 := congrArg (fun x : List Value => x[j]?) h3
        simp only [List.getElem?_take, if_pos hj] at h5
        rw [← Array.getElem?_toList, h5]
        simp [u8s, hj]
      simp [World.cell?, hg, h4]
    unfold Addr.add
    by_cases hj0 : j = 0
    · subst hj0; exact e
    · rw [if_neg hj0]; simpa using e

theorem Kept.at {g cap : Nat} (h : Kept w B b l (some ⟨g, 0, none⟩) cap) (j : Nat) (hj : j < l.length) : w.cell? ⟨g, j, none⟩ = some (.int .u8 (l[j].toNat : Int)) := by
  rcases h with ⟨h, _⟩ | ⟨g', cur, h0, _, _, hg, h1, h2, _, h3⟩
  · cases h
  · cases h0
    have h4 : cur[j]? = some (.int .u8 (l[j].toNat : Int)) := by
      have h5 := congrArg (fun x : List Value => x[j]?) h3
      simp only [List.getElem?_take, if_pos hj] at h5
      rw [← Array.getElem?_toList, h5]
      simp [u8s, hj]
    simp [World.cell?, hg, h4]

theorem Kept.nil_or {ao : Option Addr} {cap : Nat} (h : Kept w B b l ao cap) : (ao = none ∧ l = [] ∧ cap = 0) ∨ ∃ g, ao = some ⟨g, 0, none⟩ := by
  rcases h with h | ⟨g, _, h, _⟩
  · exact .inl h
  · exact .inr ⟨g, h⟩

theorem text_any (h : Buf B b l room full w) :
    Calls Try.prog 12 #[.pointer (some ⟨b, 0, none⟩)] w fun e w' => e = .returned (.string ⟨l.toArray⟩) ∧ w' = w := by
  obtain ⟨ao, cap, h⟩ := h
  obtain ⟨c0, _, _, _⟩ := h.cells
  have hc := h.kept.conv
  generalize (⟨l.toArray⟩ : ByteArray) = r at *
  go_enter Try.func12, Try.ntmps12
  go_wp2
  go_ret
  exact ⟨rfl, rfl⟩

/-- The last byte, or 0. -/
def lastI (l : List UInt8) : Int := ((l.getLast?.getD 0).toNat : Int)

theorem lastI_at (l : List UInt8) (k : Nat) (h : l.length = k + 1) : lastI l = (l[k].toNat : Int) := by
  have : l.getLast? = some l[k] := by simp [List.getLast?_eq_getElem?, h]
  unfold lastI; rw [this]; rfl

theorem last_any (h : Buf B b l room full w) :
    Calls Try.prog 19 #[.pointer (some ⟨b, 0, none⟩)] w fun e w' => e = .returned (.tuple #[.int .u8 (lastI l), .bool (l.length != 0)]) ∧ ∃ n, w' = w.drewN n := by
  obtain ⟨ao, cap, h⟩ := h
  obtain ⟨c0, _, _, _⟩ := h.cells
  have h1 := h.fits
  have h2 := h.most
  by_cases hl : l = []
  · subst hl
    go_enter Try.func19, Try.ntmps19
    go_wp2
    go_ret2
    exact ⟨rfl, 0, rfl⟩
  · obtain ⟨k, hk⟩ : ∃ k, l.length = k + 1 := ⟨l.length - 1, by have := List.length_pos_iff.2 hl; omega⟩
    have H := lastI_at l k hk
    rcases h.kept.nil_or with ⟨_, e, _⟩ | ⟨g, rfl⟩
    · exact absurd e hl
    · have hat := h.kept.at k (by omega)
      have hkc := h.kept.len.1
      have HL : Hid (lastI l = _) := H
      have HB : Hid ((l.length != 0) = true) := by show _ = _; rw [hk]; rfl
      clear H
      generalize l[k] = x at *
      rw [hk] at c0 hkc
      have z1 : ((k + 1 : Nat) : Int) = (k : Int) + 1 := by omega
      have z2 : (((k : Int) + 1) == 0) = false := by rw [beq_eq_false_iff_ne]; omega
      rw [hk] at h1
      clear hk
      go_enter Try.func19, Try.ntmps19
      go_wp2
      go_quiet (fail)
      go_wp2
      go_ret2
      refine ⟨ret_two ?_ ?_, _, rfl⟩
      · rw [HL.out]; rfl
      · rw [HB.out]; rfl

theorem keep_any (n : Nat) (h : Buf B b l room full w) (hn : n ≤ l.length) :
    Calls Try.prog 22 #[.pointer (some ⟨b, 0, none⟩), .int .i64 n] w fun e w' => e = .returned (.tuple #[]) ∧ Buf B b (l.take n) room full w' ∧ Turn B b w w' := by
  obtain ⟨ao, cap, h⟩ := h
  obtain ⟨c0, c1, _, f⟩ := h.cells
  have f0 := f 0
  have h1 := h.fits
  have h2 := h.most
  have h3 := h.kept.len
  unfold maxLen at h3
  have ha := h.above
  have HS : Hid (∀ c, n ≤ c → c ≤ cap → Buf B b (l.take n) room full (w.setCell ⟨b, 0, none⟩ (.slice ao n c))) := fun c hc hcc => h.slice n c hn hc hcc
  have HK := h.kept.nil_or
  clear f h
  generalize l.length = m at *
  rcases HK with ⟨rfl, _, rfl⟩ | ⟨g, rfl⟩
  · have hi : ¬ (room : Int) < 0 := by omega
    go_enter Try.func22, Try.ntmps22
    go_wp2
    go_region
    all_goals
      go_end0
      exact ⟨rfl, (HS.out _ (by omega) (by omega)).drew, ((Turn.refl _ _ _).setCell ha 0 _).drew⟩
  · by_cases hc : (room : Int) < (cap : Int)
    all_goals
      go_enter Try.func22, Try.ntmps22
      go_wp2
      go_region
      all_goals
        go_end0
        exact ⟨rfl, (HS.out _ (by omega) (by omega)).drew, ((Turn.refl _ _ _).setCell ha 0 _).drew⟩
end
end Go.Proofs.Ythdchapieninbab
