import Derived.Test.YtoknfhjclpdihaaPu36
namespace Go.Proofs.Ytoknfhjclpdihaa
namespace Pu
open Go.RowKit Od

theorem insA_mem {l : List Int} {p : Nat} {c y : Int} (h : y ∈ insA l p c) : y ∈ l ∨ y = c := by
  unfold insA at h
  rcases List.mem_append.1 h with h | h
  · exact .inl (List.mem_of_mem_take h)
  · rcases List.mem_cons.1 h with h | h
    · exact .inr h
    · exact .inl (List.mem_of_mem_drop h)
theorem putL_mem : ∀ (es : List Ent) (low : List Int) (y : Int), y ∈ putL low es → y ∈ low ∨ ∃ e ∈ es, y = e.1
  | [], _, _, h => .inl h
  | e :: es, low, y, h => by
    rcases putL_mem es (insA low e.2.toNat e.1) y h with h | ⟨e', h1, h2⟩
    · rcases insA_mem h with h | h
      · exact .inl h
      · exact .inr ⟨e, by simp, h⟩
    · exact .inr ⟨e', by simp [h1], h2⟩
theorem dec_bd {L : List Int} {i : Int} {l : List Int} (hL : ∀ x ∈ L, 0 ≤ x ∧ x ≤ 255) (h : decP L i = .inr l) : (∀ y ∈ l, -2147483648 ≤ y ∧ y ≤ 2147483647) ∧ l.length ≤ 2 * L.length := by
  unfold decP at h
  split at h
  · cases h
  · split at h
    · cases h
    · rename_i es hr
      injection h with h
      subst h
      have ho := rdS_ok (L.take i.toNat).length _ _ _ es (fun k hk => by simp at hk) rfl (by simp) (by simp) (by simp) hr
      refine ⟨fun y hy => ?_, ?_⟩
      · rcases putL_mem es _ y hy with h | ⟨e, h1, rfl⟩
        · have := hL y (List.mem_of_mem_take h); omega
        · obtain ⟨k, hk, rfl⟩ := List.mem_iff_getElem.1 h1
          have := ho.1 k hk; omega
      · rw [putL_len, List.length_take]
        have h2 := ho.2
        rw [List.length_drop] at h2
        simp at h2
        omega
theorem bsI_bd (s : ByteArray) : ∀ x ∈ bsI s, 0 ≤ x ∧ x ≤ 255 := by
  intro x hx
  unfold bsI at hx
  obtain ⟨b, _, rfl⟩ := List.mem_map.1 hx
  have := b.toNat_lt
  omega
theorem sl_nil (k : IntKind) (w : World) : Sl k w (.slice none 0 0) [] := ⟨none, 0, rfl, Nat.le_refl _, fun _ => ⟨rfl, rfl⟩, fun k hk => by simp at hk⟩
/-- What is told: an error's number, or none and a list. -/
def Tel (r : Sum Int (List Int)) (x : Int) (l : List Int) : Prop := (r = .inl x ∧ l = []) ∨ (r = .inr l ∧ x = 0)
theorem dec_new (s : ByteArray) (hs : s.size ≤ 120) (w : World) :
    Calls Try.prog 11 #[.string s] w fun e w' => ∃ (i x : Int) (l : List Int) (v : Value), e = .returned (.tuple #[v, .int .i64 x]) ∧ Hy (bsI s) i ∧ Tel (decP (bsI s) i) x l ∧ (Sl .i32 w' v l ∧ ∀ b, v.ownBlock = some b → w.heap.size ≤ b) ∧ l.length ≤ 1000 ∧ (∀ y ∈ l, -2147483648 ≤ y ∧ y ≤ 2147483647) ∧ Below w.heap.size w w' := by
  refine (dec_small s (by omega) w).mono ?_
  rintro e w' ⟨⟨i, hy, hv⟩, hb⟩
  cases hd : decP (bsI s) i with
  | inl x =>
    rw [hd] at hv
    exact ⟨i, x, [], _, hv, hy, .inl ⟨hd, rfl⟩, ⟨sl_nil _ _, fun b h => (by simp [Value.ownBlock] at h)⟩, by simp, by simp, hb⟩
  | inr l =>
    rw [hd] at hv
    obtain ⟨g, rfl, hg, hro⟩ := hv
    have h2 := dec_bd (bsI_bd s) hd
    rw [bsI_len] at h2
    exact ⟨i, 0, l, _, rfl, hy, .inr ⟨hd, rfl⟩, ⟨hro.sl, fun b h => (by simp [Value.ownBlock] at h; omega)⟩, by omega, h2.1, hb⟩
theorem dec_uni (s : ByteArray) (hs : s.size ≤ 120) (w : World) :
    Calls Try.prog 11 #[.string s] w fun e w' => ∃ (i x : Int) (l : List Int) (v : Value), e = .returned (.tuple #[v, .int .i64 x]) ∧ Hy (bsI s) i ∧ Tel (decP (bsI s) i) x l ∧ Sl .i32 w' v l ∧ l.length ≤ 1000 ∧ (∀ y ∈ l, -2147483648 ≤ y ∧ y ≤ 2147483647) ∧ Below w.heap.size w w' :=
  (dec_new s hs w).mono fun _ _ ⟨i, x, l, v, h1, h2, h3, h4, h5⟩ => ⟨i, x, l, v, h1, h2, h3, h4.1, h5⟩
theorem rdec_uni (s : ByteArray) (hs : s.size ≤ 100) (i x : Int) (l : List Int) (hy : Hy (bsI s) i) (ht : Tel (decP (bsI s) i) x l) (w : World) :
    Calls Try.prog 13 #[.string s] w fun e w' => ∃ v, e = .returned (.tuple #[v, .int .i64 x]) ∧ Sl .i64 w' v l ∧ Below w.heap.size w w' := by
  refine (rdec_any s (by omega) i hy w).mono ?_
  rintro e w' ⟨hv, hb⟩
  rcases ht with ⟨hd, rfl⟩ | ⟨hd, rfl⟩
  · rw [hd] at hv
    exact ⟨_, hv, sl_nil _ _, hb⟩
  · rw [hd] at hv
    obtain ⟨v, rfl, hs⟩ := hv
    exact ⟨v, rfl, hs.sl, hb⟩
end Pu
end Go.Proofs.Ytoknfhjclpdihaa
