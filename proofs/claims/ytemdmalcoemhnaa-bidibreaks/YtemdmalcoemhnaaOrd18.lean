import Derived.Test.YtemdmalcoemhnaaOrd17
namespace Go.Proofs.Ytemdmalcoemhnaa
namespace Od
open Go.RowKit

/-- append(out, l...) onto an empty slice of the call's own. -/
theorem app_all {ops : Array Oper} {rest : List Oper} {o : Oper} {a : Act} {Q : Exit → Act → World → Prop} (hgd : o.guard = none) (s x : Operand)
    (ho : o.op = .call { callee := .builtin .append, args := #[s, x], argTypes := #[30, 30] }) (W : World) (B : Nat) (v : Value) (ad : Addr) (cap : Nat) (xs zs : List Int) (hs : a.eval s = v) (hx : a.eval x = .slice (some ad) zs.length cap)
    (hown : W.ownsRow B 3 1 v xs.length (ivs .i64 xs)) (hsv : isSome v) (hz : SlP .i64 W (some ad) cap zs) (hn : xs.length + zs.length ≤ 1000000000) (hB : B ≤ W.heap.size)
    (h : ∀ v' w', w'.ownsRow B 3 1 v' (xs ++ zs).length (ivs .i64 (xs ++ zs)) → isSome v' → Below B W w' → (∀ k, k < W.heap.size → v.ownBlock ≠ some k → w'.heap[k]? = W.heap[k]?) → wpList Try.prog ops Q rest (a.put o.dst v') w') :
    wpList Try.prog ops Q (o :: rest) a W := by
  obtain ⟨i0, hi, hz0, hz1, hz2⟩ := info_parts Try.info_i64
  refine wpList_append_own_at _ hgd s x 30 ho B 3 i0 (.int .i64 0) 1 8 Try.underlying30 hi hz0 hz1 hz2 rfl (by decide) v xs.length (ivs .i64 xs) hs hown ad zs.length cap (ivs .i64 zs) hx (by rw [ivs_len]; omega)
    (fun j u hj => ?_) (fun u hu => by simp [ivs] at hu; obtain ⟨z, _, rfl⟩ := hu; rfl) (by unfold maxLen; omega) (by omega) hB (fun v' w' h1 h2 h3 _ => h v' w' ?_ ?_ (below_of_grown h2 B hB (fun k e => (hown.lt k e).1)) (fun k hk hne => h2.block k hk (fun e => hne e.symm)))
  · have hlt : j < zs.length := by
      have := (List.getElem?_eq_some_iff.1 hj).1
      rwa [ivs_len] at this
    obtain ⟨b, off, e, hb, hc⟩ := hz.at_ j hlt
    simp at e
    subst e
    have e2 : (⟨b, off, none⟩ : Addr).add j = ⟨b, off + j, none⟩ := by unfold Addr.add; split <;> simp_all
    rw [e2, hc]
    simp [ivs, hlt] at hj
    rw [hj]
  · have e : ivs .i64 xs ++ ivs .i64 zs = ivs .i64 (xs ++ zs) := by simp [ivs]
    rw [List.length_append, ← e]; exact h1
  · rcases h1.2 with ⟨e1, _⟩ | ⟨g, cap', cur, rfl, _⟩
    · rw [(h3.1 e1).1] at hsv; exact hsv.elim
    · trivial

end Od
end Go.Proofs.Ytemdmalcoemhnaa
