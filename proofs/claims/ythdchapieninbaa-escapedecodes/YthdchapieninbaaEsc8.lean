import Derived.Test.YthdchapieninbaaEsc7
namespace Go.Proofs.Ythdchapieninbaa
open Go.RowKit

/-- From k on: where the next escape begins, if there is one, and what is ahead of it. -/
theorem escs_next (f : List UInt8 → UInt8 → List UInt8) (s : ByteArray) : ∀ (m k : Nat), s.size - k = m → k ≤ s.size → ∀ (x : Nat × UInt8) (rest : List (Nat × UInt8)), escs k (s.data.toList.drop k) = x :: rest →
    k ≤ x.1 ∧ 0 ≤ atL (s.data.toList.drop x.1) ∧ x.2 = octL (s.data.toList.drop x.1) ∧ rest = escs (x.1 + 3) (s.data.toList.drop (x.1 + 3)) ∧ repl f (s.data.toList.drop k) = (s.data.toList.drop k).take (x.1 - k) ++ repl f (s.data.toList.drop x.1)
  | 0, k, hm, hk, x, rest, h => by
    rw [drop_end s k (by omega)] at h
    simp [escs] at h
  | m + 1, k, hm, hk, x, rest, h => by
    by_cases ha : 0 ≤ atL (s.data.toList.drop k)
    · rw [escs_yes s k ha] at h
      simp only [List.cons.injEq] at h
      obtain ⟨rfl, rfl⟩ := h
      exact ⟨Nat.le_refl _, ha, rfl, rfl, by simp⟩
    · have hlt : k < s.size := by omega
      rw [escs_no s k hlt (by omega)] at h
      obtain ⟨h1, h2, h3, h4, h5⟩ := escs_next f s m (k + 1) (by omega) (by omega) x rest h
      refine ⟨by omega, h2, h3, h4, ?_⟩
      rw [repl_no f s k hlt (by omega), h5]
      have e : x.1 - k = (x.1 - (k + 1)) + 1 := by omega
      rw [e]
      conv => rhs; rw [drop1 s k hlt]
      rfl

theorem escs_end (f : List UInt8 → UInt8 → List UInt8) (s : ByteArray) : ∀ (m k : Nat), s.size - k = m → k ≤ s.size → escs k (s.data.toList.drop k) = [] → repl f (s.data.toList.drop k) = s.data.toList.drop k
  | 0, k, hm, hk, h => by rw [drop_end s k (by omega)]; rfl
  | m + 1, k, hm, hk, h => by
    by_cases ha : 0 ≤ atL (s.data.toList.drop k)
    · rw [escs_yes s k ha] at h; cases h
    · have hlt : k < s.size := by omega
      rw [escs_no s k hlt (by omega)] at h
      rw [repl_no f s k hlt (by omega), escs_end f s m (k + 1) (by omega) (by omega) h, ← drop1 s k hlt]

theorem ext_mid (s : ByteArray) (a b : Nat) : (s.extract a b).data.toList = (s.data.toList.drop a).take (b - a) := ext_list s a b

theorem dec1_any (x : ByteArray) (c : UInt8) (w : World) :
    Calls Try.prog 25 #[.string x, .int .u8 (c.toNat : Int)] w fun e w' => e = .returned (.string ⟨[c].toArray⟩) ∧ Below w.heap.size w w' := by
  go_enter Try.func25, Try.ntmps25
  go_wp2_with (first | (go_at_call 26; refine (single_any _ _).mono ?_; rintro e w' ⟨rfl, hb⟩))
  go_ret
  exact ⟨rfl, hb⟩

theorem up1_any (x : ByteArray) (c : UInt8) (w : World) :
    Calls Try.prog 31 #[.string x, .int .u8 (c.toNat : Int)] w fun e w' => e = .returned (.string ⟨(ofU c).toArray⟩) ∧ Below w.heap.size w w' := by
  have H := hid (of_any c)
  generalize (⟨(ofU c).toArray⟩ : ByteArray) = r at *
  go_enter Try.func31, Try.ntmps31
  go_wp2_with (first | (go_at_call 16; refine (H.out _).mono ?_; rintro e w' ⟨rfl, hb⟩))
  go_ret
  exact ⟨rfl, hb⟩

theorem mk_toList (s : ByteArray) : (⟨s.data.toList.toArray⟩ : ByteArray) = s := by simp

theorem some1_any (x : ByteArray) (c : UInt8) (cb : Nat) (cl : Int) (w : World) (hc : w.cell? ⟨cb, 0, none⟩ = some (.int .i64 cl)) :
    Calls Try.prog 32 #[.string x, .int .u8 (c.toNat : Int), .pointer (some ⟨cb, 0, none⟩)] w fun e w' => e = .returned (.string ⟨(fS cl false false x.data.toList c).toArray⟩) ∧ Below w.heap.size w w' := by
  by_cases hx : isB c.toNat cl = true
  · have HF : Hid ((⟨(fS cl false false x.data.toList c).toArray⟩ : ByteArray) = ⟨#[c]⟩) := by show _ = _; unfold fS; rw [if_pos (.inr hx)]
    go_enter Try.func32, Try.ntmps32
    go_wp2_with (first | (go_at_call 20; refine (is_any _ _ _).mono ?_; rintro e w' ⟨rfl, rfl⟩) | (go_at_call 26; refine (single_any _ _).mono ?_; rintro e w' ⟨rfl, hb⟩))
    go_ret
    exact ⟨ret_string HF.out.symm, hb⟩
  · have hx' : isB c.toNat cl = false := by simpa using hx
    have HF : Hid ((⟨(fS cl false false x.data.toList c).toArray⟩ : ByteArray) = x) := by
      show _ = _; unfold fS; rw [if_neg (by simp [hx']), if_neg (by simp)]
    go_enter Try.func32, Try.ntmps32
    go_wp2_with (first | (go_at_call 20; refine (is_any _ _ _).mono ?_; rintro e w' ⟨rfl, rfl⟩))
    go_ret
    exact ⟨ret_string HF.out.symm, Below.refl _ _⟩
end Go.Proofs.Ythdchapieninbaa
