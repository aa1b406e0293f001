import Derived.Test.YtbamhbfncddieaaOrd14x19
import Derived.Shelf.Abstract
namespace Go.Proofs.Ytbamhbfncddieaa
namespace Ru
open Go.RowKit Od

theorem hr {p : Prop} (h : p) : Hid p := h
set_option maxRecDepth 100000 in
set_option maxHeartbeats 2000000 in
theorem index_any {w : World} {v : Value} {zs : List Int} (h : Sl .i64 w v zs) (hn : zs.length ≤ 1000000) (x : Int) :
    Calls Try.prog 102 #[v, .int .i64 x] w fun e w' => ∃ z : Int, e = .returned (.int .i64 z) ∧ (0 ≤ z ↔ x ∈ zs) ∧ w' = w := by
  obtain ⟨ao, cap, rfl, h⟩ := h
  have HS := hr h
  clear h
  generalize hlen : zs.length = len at *
  have HLn := hr hlen
  clear hlen
  go_enter Try.func102, Try.ntmps102
  go_wp2_with fail
  go_loop [8] (fun vi => ∃ k : Nat, k ≤ len ∧ vi = .int .i64 k ∧ Hid (∀ j (hj : j < zs.length), j < k → zs[j] ≠ x)) (fun vi => len - (intOf vi).toNat)
  case atStart => exact ⟨0, Nat.zero_le _, rfl, fun j _ h => by omega⟩
  case round =>
    obtain ⟨k, hk, rfl, H⟩ := hrel
    by_cases hlt : k < len
    · have hlx : k < zs.length := by rw [HLn.out]; exact hlt
      obtain ⟨b, off, rfl, hb, c1⟩ := HS.out.at_ k hlx
      have z1 : (k : Int) < (len : Int) := by omega
      by_cases he : zs[k] = x
      · have HE : Hid ((0 : Int) ≤ (k : Int) ↔ x ∈ zs) := ⟨fun _ => by rw [← he]; exact List.getElem_mem hlx, fun _ => by omega⟩
        rw [he] at c1
        go_wp2_with fail
        try rw [Exit.noGoto_ret]
        go_ret
        exact ⟨_, rfl, HE.out, rfl⟩
      · have HN : Hid (∀ j (hj : j < zs.length), j < k + 1 → zs[j] ≠ x) := fun j hj h => by
          by_cases e : j = k
          · subst e; exact he
          · exact H.out j hj (by omega)
        generalize zs[k] = y at *
        have q : (x == y) = false := beq_eq_false_iff_ne.2 (fun e => he e.symm)
        go_wp2_with fail
        go_round
        case rel => exact ⟨k + 1, hlt, by go_num, HN⟩
        case measure => (simp [intOf]) <;> omega
    · have z1 : ¬ (k : Int) < (len : Int) := by omega
      have HE : Hid ((0 : Int) ≤ -1 ↔ x ∈ zs) := ⟨fun h => by omega, fun hm => by
        obtain ⟨j, hj, e⟩ := List.mem_iff_getElem.1 hm
        exact absurd e (H.out j hj (by have := HLn.out; omega))⟩
      go_wp2_with fail
      go_ret
      exact ⟨_, rfl, HE.out, rfl⟩
set_option maxHeartbeats 1000000 in
theorem contains_any {w : World} {v : Value} {zs : List Int} (h : Sl .i64 w v zs) (hn : zs.length ≤ 1000000) (x : Int) :
    Calls Try.prog 83 #[v, .int .i64 x] w fun e w' => e = .returned (.bool (decide (x ∈ zs))) ∧ w' = w := by
  have HI := hr (index_any h hn x)
  clear h hn
  go_enter Try.func83, Try.ntmps83
  go_wp2_with fail
  refine HI.out.mono ?_
  rintro e w1 ⟨z, rfl, h1, rfl⟩
  have HE : Hid (decide (x ∈ zs) = decide (0 ≤ z)) := decide_eq_decide.2 h1.symm
  clear h1
  go_wp2_with fail
  go_ret
  exact ⟨ret_bool HE.out.symm, rfl⟩

/-- A function that asks something of a rune. -/
structure Ask (g : Nat) (pa cb : Array Value) (q : Int → Bool) (G : World → Prop) : Prop where
  enter : ∀ args w, (callFunc g args).run Try.prog w = .ok (.enter g args) w
  call : ∀ W x, G W → Calls Try.prog g (pa.push (.int .i32 x) ++ cb) W fun e w' => e = .returned (.bool (q x)) ∧ Below W.heap.size W w'
  keep : ∀ W W', G W → Below W.heap.size W W' → G W'
set_option maxRecDepth 100000 in
set_option maxHeartbeats 2000000 in
theorem idxf_any {G : World → Prop} {p : Int → Bool} {g : Nat} {pa cb : Array Value} (w : World) (ao : Option Addr) (n cap : Nat) (hC : Ask g pa cb p G) (X : List Int) (hX : X.length = n) (hS : SlP .i32 w ao cap X) (hG : G w) (hn : n ≤ 1000000) :
    Calls Try.prog 81 #[.slice ao n cap, .func (.func g) pa cb] w fun e w' => ∃ z : Int, e = .returned (.int .i64 z) ∧ (0 ≤ z ↔ X.any p = true) ∧ Below w.heap.size w w' := by
  have HC := hr hC
  have HX := hr hX
  have HS := hr hS
  have H0 : Hid (G w ∧ Ok w.heap.size w w) := ⟨hG, Ok.start w⟩
  clear hC hX hS hG
  have hen := HC.out.enter
  go_enter Try.func81, Try.ntmps81
  go_wp2_with fail
  go_loopg [8] n (fun gg vi wr => ∃ k : Nat, vi = .int .i64 k ∧ k ≤ n ∧ gg = n - k ∧ Hid ((∀ j (hj : j < X.length), j < k → p X[j] = false) ∧ G wr ∧ Ok w.heap.size w wr))
  case atStart => exact ⟨0, rfl, Nat.zero_le _, rfl, fun j _ h => by omega, H0.out⟩
  case round =>
    obtain ⟨k, rfl, hk, hg, H⟩ := hrel
    have HG := hr hg
    clear hg H0
    by_cases hlt : k < n
    · have hlx : k < X.length := by have := HX.out; omega
      obtain ⟨b, off, rfl, hb, c1⟩ := HS.out.at_ k hlx
      have d1 := (H.out.2.2.1.cell (p := ⟨b, off + k, none⟩) hb).trans c1
      have HV := hr (HC.out.call wr X[k] H.out.2.1)
      have z1 : (k : Int) < (n : Int) := by omega
      clear c1
      by_cases hp : p X[k] = true
      · have HE : Hid ((0 : Int) ≤ (k : Int) ↔ X.any p = true) := ⟨fun _ => List.any_eq_true.2 ⟨X[k], List.getElem_mem hlx, hp⟩, fun _ => by omega⟩
        rw [hp] at HV
        generalize X[k] = x at *
        clear hp
        go_wp2_with fail
        refine HV.out.mono ?_
        rintro e w' ⟨rfl, hb'⟩
        have hok := hr (H.out.2.2.step hb')
        clear hb'
        go_wp2_with fail
        try rw [Exit.noGoto_ret]
        go_ret
        exact ⟨_, rfl, HE.out, hok.out.1⟩
      · have hp2 : p X[k] = false := by simpa using hp
        have HN0 : Hid (∀ j (hj : j < X.length), j < k + 1 → p X[j] = false) := fun j hj h => by
          by_cases e : j = k
          · subst e; exact hp2
          · exact H.out.1 j hj (by omega)
        rw [hp2] at HV
        generalize X[k] = x at *
        clear hp hp2
        go_wp2_with fail
        refine HV.out.mono ?_
        rintro e w' ⟨rfl, hb'⟩
        have HN : Hid (G w' ∧ Ok w.heap.size w w') := ⟨HC.out.keep _ _ H.out.2.1 hb', H.out.2.2.step hb'⟩
        clear hb'
        go_wp2_with fail
        go_roundg (n - (k + 1))
        case measure => rw [HG.out]; omega
        case rel => exact ⟨k + 1, by go_num, by omega, rfl, HN0.out, HN.out⟩
    · have z1 : ¬ (k : Int) < (n : Int) := by omega
      have HE : Hid ((0 : Int) ≤ -1 ↔ X.any p = true) := ⟨fun h => by omega, fun h => by
        obtain ⟨x, hx, hp⟩ := List.any_eq_true.1 h
        obtain ⟨j, hj, rfl⟩ := List.mem_iff_getElem.1 hx
        rw [H.out.1 j hj (by have := HX.out; omega)] at hp
        cases hp⟩
      go_wp2_with fail
      go_ret
      exact ⟨_, rfl, by first | exact HE.out | (rw [← List.any_eq_true]; exact HE.out), H.out.2.2.1⟩
set_option maxHeartbeats 1000000 in
theorem contf_any {G : World → Prop} {p : Int → Bool} {g : Nat} {pa cb : Array Value} (w : World) (ao : Option Addr) (n cap : Nat) (hC : Ask g pa cb p G) (X : List Int) (hX : X.length = n) (hS : SlP .i32 w ao cap X) (hG : G w) (hn : n ≤ 1000000) :
    Calls Try.prog 65 #[.slice ao n cap, .func (.func g) pa cb] w fun e w' => e = .returned (.bool (X.any p)) ∧ Below w.heap.size w w' := by
  have HI := hr (idxf_any w ao n cap hC X hX hS hG hn)
  clear hC hX hS hG hn
  go_enter Try.func65, Try.ntmps65
  go_wp2_with fail
  refine HI.out.mono ?_
  rintro e w1 ⟨z, rfl, h1, hb⟩
  have HE : Hid (X.any p = decide (0 ≤ z)) := by
    show _ = _
    rw [Bool.eq_iff_iff, decide_eq_true_eq]; exact h1.symm
  have HB := hr hb
  clear h1 hb
  go_wp2_with fail
  go_ret
  exact ⟨ret_bool HE.out.symm, HB.out⟩
end Ru
end Go.Proofs.Ytbamhbfncddieaa
