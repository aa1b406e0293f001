import Derived.Test.YtemdmalcoemhnaaOrd19
import Derived.Laws.AppendOwnNone
namespace Go.Proofs.Ytemdmalcoemhnaa
namespace Ap
open Go.RowKit Od

theorem hr {p : Prop} (h : p) : Hid p := h
/-- append(out, l...) of runes onto a row of the call's own, l any slice. -/
theorem app32 {ops : Array Oper} {rest : List Oper} {o : Oper} {a : Act} {Q : Exit → Act → World → Prop} (hgd : o.guard = none) (s x : Operand)
    (ho : o.op = .call { callee := .builtin .append, args := #[s, x], argTypes := #[22, 22] }) (W : World) (B : Nat) (v u : Value) (xs zs : List Int) (hs : a.eval s = v) (hx : a.eval x = u)
    (hown : W.ownsRow B 21 1 v xs.length (ivs .i32 xs)) (hz : Sl .i32 W u zs) (hn : xs.length + zs.length ≤ 1000000000) (hB : B ≤ W.heap.size)
    (h : ∀ v' w', w'.ownsRow B 21 1 v' (xs ++ zs).length (ivs .i32 (xs ++ zs)) → Below B W w' → (∀ k, k < W.heap.size → v.ownBlock ≠ some k → w'.heap[k]? = W.heap[k]?) → wpList Try.prog ops Q rest (a.put o.dst v') w') :
    wpList Try.prog ops Q (o :: rest) a W := by
  obtain ⟨i0, hi, hz0, hz1, hz2⟩ := info_parts Try.info_i32
  obtain ⟨ao, cap, rfl, hz⟩ := hz
  cases ao with
  | none =>
    obtain ⟨e1, e2⟩ := hz.none_ rfl
    have e3 : zs = [] := List.eq_nil_of_length_eq_zero e1
    subst e3 e2
    refine wpList_append_own_none hgd s x 22 ho B 21 i0 1 Try.underlying22 hi v xs.length (ivs .i32 xs) hs hown hx ?_
    exact h v W (by rw [List.append_nil]; exact hown) (Below.refl _ _) (fun _ _ _ => rfl)
  | some ad =>
    refine wpList_append_own_at _ hgd s x 22 ho B 21 i0 (.int .i32 0) 1 4 Try.underlying22 hi hz0 hz1 hz2 rfl (by decide) v xs.length (ivs .i32 xs) hs hown ad zs.length cap (ivs .i32 zs) hx (by rw [ivs_len]; omega)
      (fun j u hj => ?_) (fun u hu => by simp [ivs] at hu; obtain ⟨z, _, rfl⟩ := hu; rfl) (by unfold maxLen; omega) (by omega) hB (fun v' w' h1 h2 h3 _ => h v' w' ?_ (below_of_grown h2 B hB (fun k e => (hown.lt k e).1)) (fun k hk hne => h2.block k hk (fun e => hne e.symm)))
    · have hlt : j < zs.length := by
        have := (List.getElem?_eq_some_iff.1 hj).1
        rwa [ivs_len] at this
      obtain ⟨b, off, e, hb, hc⟩ := hz.at_ j hlt
      simp at e
      subst e
      have e2 : (⟨b, off, none⟩ : Addr).add j = ⟨b, off + j, none⟩ := by unfold Addr.add; split <;> simp_all
      rw [e2, hc]
      simp [ivs, hlt] at hj
      rw [hj]
    · have e : ivs .i32 xs ++ ivs .i32 zs = ivs .i32 (xs ++ zs) := by simp [ivs]
      rw [List.length_append, ← e]; exact h1
end Ap
end Go.Proofs.Ytemdmalcoemhnaa
