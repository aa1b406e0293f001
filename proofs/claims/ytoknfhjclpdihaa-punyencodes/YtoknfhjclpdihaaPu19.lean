import Derived.Test.YtoknfhjclpdihaaPu18
import Derived.Test.YtoknfhjclpdihaaOrd10
namespace Go.Proofs.Ytoknfhjclpdihaa
namespace Pu
open Go.RowKit Od

theorem back_any (ao : Option Addr) (n cap : Nat) (w : World) : Calls Try.prog 40 #[.slice ao n cap] w fun e w' => e = .returned (.func (.func 44) #[] #[.pointer (some ⟨w.heap.size, 0, none⟩)]) ∧ w' = w.alloc (.cells #[.slice ao n cap] 56) := by
  go_enter Try.func40, Try.ntmps40
  go_wp2
  go_ret
  exact ⟨rfl, rfl⟩

/-- What is told: an index, and the entry there. -/
def toldB (x : Nat × Ent) : Array Value := #[.int .i64 (x.1 : Int), .agg #[.int .i32 x.2.1, .int .i64 x.2.2]]
def tbN (es : List Ent) (k : Nat) : Nat × Ent := (es.length - 1 - k, es.getD (es.length - 1 - k) (0, 0))
/-- The first ones that are told. -/
def tb (es : List Ent) (k : Nat) : List (Nat × Ent) := (List.range k).map (tbN es)
theorem tb_succ (es : List Ent) (k : Nat) : tb es (k + 1) = tb es k ++ [tbN es k] := by
  unfold tb
  rw [List.range_succ, List.map_append]
  rfl
/-- What the iterator needs: the entries. -/
structure NeB (ao : Option Addr) (cap pb : Nat) (es : List Ent) (pre : List (Nat × Ent)) (W : World) : Prop where
  bx : Bx W pb (.slice ao es.length cap) 56
  row : ∀ i (h : i < es.length), ∃ g, ao = some ⟨g, 0, none⟩ ∧ W.cell? ⟨g, i * 2, none⟩ = some (.int .i32 es[i].1) ∧ W.cell? ⟨g, i * 2 + 1, none⟩ = some (.int .i64 es[i].2)
def NextB (es : List Ent) (pre : List (Nat × Ent)) (x : Nat × Ent) : Prop := ∃ k, k < es.length ∧ pre = tb es k ∧ x = tbN es k

attribute [local go_sem] Oper.semAt_some
set_option maxRecDepth 100000 in
set_option maxHeartbeats 4000000 in
theorem back1_tells (n : Nat) (ao : Option Addr) (cap pb : Nat) (hn : 1 ≤ n) (es : List Ent) (hl : es.length ≤ 1000000) (w : World) :
    Tells2 Fence.wide n Try.prog 44 #[.pointer (some ⟨pb, 0, none⟩)] toldB (NeB ao cap pb es) (NextB es) (fun xs => xs = tb es es.length) w := by
  intro y J Jx W hW hJb hJN hY h0
  have HJb := hid hJb
  have HJN := hid hJN
  have HY := hid hY
  have H0 := hid h0
  have c0 := (hJN _ _ h0).bx.cell
  clear hJb hJN hY h0 hW
  refine callsIn_of_wp Try.func44 rfl trivial ?_ rfl
  simp only [Try.ntmps44, List.size_toArray, List.length_cons, List.length_nil, Nat.reduceAdd, Nat.reduceSub, Array.replicate_succ, Array.replicate_zero, List.push_toArray, List.append_toArray, List.nil_append, List.cons_append]
  gi_wp2
  gi_loopw [3] (fun i wr => ∃ (k : Nat), k ≤ es.length ∧ i = .int .i64 ((es.length : Int) - 1 - k) ∧ Hid (J (tb es k) wr)) (fun i _ => (intOf i + 1).toNat)
  case atStart => exact ⟨0, Nat.zero_le _, by go_num, H0.out⟩
  case round =>
    obtain ⟨k, hk, rfl, H⟩ := hrel
    clear H0 c0
    by_cases hlt : k < es.length
    · have hNe := HJN.out _ _ H.out
      have c1 := hNe.bx.cell
      obtain ⟨g, rfl, c2, c3⟩ := hNe.row (es.length - 1 - k) (by omega)
      have hx : Hid (tbN es k = (es.length - 1 - k, es[es.length - 1 - k]'(by omega))) := by
        show _ = _
        unfold tbN
        rw [List.getD_eq_getElem?_getD, List.getElem?_eq_getElem (by omega)]; rfl
      have HN := hid (tb_succ es k)
      have hR := HY.out (tb es k) (tbN es k) wr H.out ⟨k, hlt, rfl, rfl⟩
      obtain ⟨fn, tmps, assign, body, hy, hRo⟩ := hR
      rw [hx.out] at hy HN
      rw [hx.out] at hRo
      obtain ⟨j, hj⟩ : ∃ j : Nat, es.length - 1 - k = j := ⟨_, rfl⟩
      have hjz : (es.length : Int) - 1 - (k : Int) = (j : Int) := by omega
      have hjl : j < es.length := by omega
      have z1 : (j : Int) < (es.length : Int) := by omega
      have e1 : es[es.length - 1 - k]'(by omega) = es[j] := by congr 1
      rw [e1] at hy c2 c3 HN hRo
      rw [hj] at hy c2 c3 HN hRo
      rw [hjz]
      clear hNe hx e1
      generalize es[j] = x at *
      obtain ⟨x1, x2⟩ := x
      unfold toldB at hy
      dsimp only at hy c2 c3
      have HK := hid hk
      have HL := hid hlt
      have HJ2 := hid hj
      clear hk hlt hj
      gi_wp2_with fail
      refine hRo.mono ?_
      rintro e W3 (⟨rfl, hJ3⟩ | ⟨rfl, hJx⟩)
      · have H3 := hid hJ3
        clear hJ3
        gi_wp2_with fail
        go_roundw
        case rel => exact ⟨k + 1, HL.out, by have := HJ2.out; have := HL.out; congr 1; omega, by show J _ _; rw [HN.out]; exact H3.out⟩
        case measure => (simp [intOf]) <;> omega
      · have H3 := hid hJx
        clear hJx
        gi_wp2_with fail
        (try simp only [Exit.inBlock, Exit.then])
        refine bodyPost_ret (results_none rfl _ _ _) rfl ?_
        exact ⟨⟨_, rfl⟩, .inr ⟨_, H3.out⟩⟩
    · have hke : k = es.length := by omega
      subst hke
      have hz : (es.length : Int) - 1 - (es.length : Int) = -1 := by omega
      rw [hz]
      clear hk hlt
      gi_wp2_with fail
      go_end0
      exact ⟨⟨_, rfl⟩, .inl ⟨_, rfl, H.out⟩⟩
end Pu
end Go.Proofs.Ytoknfhjclpdihaa
