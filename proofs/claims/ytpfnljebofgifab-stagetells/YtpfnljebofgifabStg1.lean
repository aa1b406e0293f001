import Derived.Test.YtpfnljebofgifabStg0
import Derived.Defers
import Derived.Recover
import Derived.Laws.Pointers
namespace Go.Proofs.Ytpfnljebofgifab
open Go.RowKit

theorem own_slice {w : World} {B n size : Nat} {e : TypeId} {v : Value} {xs : List Value} (h : w.ownsRow B e size v n xs) : ∃ ao cap, v = .slice ao n cap := by
  rcases h.2 with ⟨h1, h2⟩ | ⟨g, cap, cur, rfl, _⟩
  · exact ⟨none, 0, by rw [h1, h2]⟩
  · exact ⟨_, _, rfl⟩

def ints (l : List Int) : List Value := l.map (.int .i64 ·)
theorem ints_len (l : List Int) : (ints l).length = l.length := by simp [ints]
theorem ints_snoc (l : List Int) (x : Int) : ints (l ++ [x]) = ints l ++ [.int .i64 x] := by simp [ints]

/-- A slice that owns the row of these ints. -/
abbrev Own1 (w : World) (B : Nat) (v : Value) (l : List Int) : Prop := w.ownsRow B 3 1 v l.length (ints l)

theorem Own1.open {w : World} {B : Nat} {v : Value} {l : List Int} (h : Own1 w B v l) : ∃ ao cap, v = .slice ao l.length cap ∧ ∀ j (hj : j < l.length), ∃ g, ao = some ⟨g, 0, none⟩ ∧ w.cell? ⟨g, j, none⟩ = some (.int .i64 l[j]) := by
  rcases h.2 with ⟨h1, h2⟩ | ⟨g, cap, cur, rfl, h2, h3, h4, h5, h6, h7⟩
  · refine ⟨none, 0, by rw [h1, h2], fun j hj => ?_⟩
    omega
  · refine ⟨_, cap, rfl, fun j hj => ⟨g, rfl, ?_⟩⟩
    have := h.cellAt (g := g) (cap := cap) (j := j) (by omega)
    rw [this]
    simp [ints, hj]

set_option maxHeartbeats 400000 in
theorem index_any {w : World} {B : Nat} {v : Value} {l : List Int} (h : Own1 w B v l) (hl : l.length ≤ 100000) (x : Int) :
    Calls Try.prog 23 #[v, .int .i64 x] w fun e w' => w' = w ∧ ((∃ n : Nat, e = .returned (.int .i64 n) ∧ l[n]? = some x) ∨ (e = .returned (.int .i64 (-1)) ∧ x ∉ l)) := by
  obtain ⟨ao, cap, rfl, hc⟩ := h.open
  have HC := hid hc
  clear hc h
  go_enter Try.func23, Try.ntmps23
  go_wp2
  go_loop [8] (fun i => ∃ k : Nat, k ≤ l.length ∧ i = .int .i64 k ∧ Hid (∀ j, j < k → l[j]? ≠ some x)) (fun i => l.length - (intOf i).toNat)
  case atStart => exact ⟨0, Nat.zero_le _, rfl, fun j hj => absurd hj (Nat.not_lt_zero _)⟩
  case round =>
    obtain ⟨k, hk, rfl, hin⟩ := hrel
    by_cases hlt : k < l.length
    · obtain ⟨g, rfl, hat⟩ := HC.out k hlt
      by_cases hx : (x == l[k]) = true
      · have H : Hid (l[k]? = some x) := by show _ = _; rw [List.getElem?_eq_getElem hlt, eq_of_beq hx]
        clear hin HC
        generalize l[k] = y at *
        go_wp2
        go_ret
        exact ⟨rfl, .inl ⟨k, rfl, H.out⟩⟩
      · have hx' : (x == l[k]) = false := by simpa using hx
        have H : Hid (∀ j, j < k + 1 → l[j]? ≠ some x) := by
          intro j hj e
          by_cases e1 : j = k
          · subst e1
            rw [List.getElem?_eq_getElem hlt] at e
            simp at e; rw [e] at hx; simp at hx
          · exact hin.out j (by omega) e
        clear hin HC hx
        generalize l[k] = y at *
        go_wp2
        go_round
        case rel => exact ⟨k + 1, by omega, by go_num, H⟩
        case measure => simp [intOf]; omega
    · have H : Hid (x ∉ l) := by
        intro hm
        obtain ⟨j, hj⟩ := List.mem_iff_getElem?.1 hm
        exact hin.out j (by have := (List.getElem?_eq_some_iff.1 hj).1; omega) hj
      have e : k = l.length := by omega
      subst e
      clear hin HC
      go_wp2
      go_ret
      exact ⟨rfl, .inr ⟨rfl, H.out⟩⟩

theorem catch_idle (p : Addr) (w : World) :
    CallsD Try.prog 22 #[.pointer (some p)] .returning w fun e u' w' => e = .returned (.tuple #[]) ∧ u' = .returning ∧ w' = w := by
  refine callsD_of_wpS Try.func22 rfl fun c₀ cs hu => ?_
  apply wpS_seq
  apply wpS_region
  simp [wpOpsS, go_sem, recoverD, hu, Try.ntmps22, Exit.thenS]
  refine wpS_cond (t := false) (by simp [Act.eval, Array.replicate]) ?_
  simp only [Bool.false_eq_true, if_false]
  refine wpS_of_wp (wp_skip ?_)
  cases c₀
  simp_all [bodyPostS, results, Try.results22]

theorem find_any {w : World} {B : Nat} {v : Value} {l : List Int} (h : Own1 w B v l) (hl : l.length ≤ 100000) (x : Int) :
    Calls Try.prog 21 #[v, .int .i64 x] w fun e w' => Below w.heap.size w w' ∧ ((∃ n : Nat, e = .returned (.int .i64 n) ∧ l[n]? = some x) ∨ (e = .returned (.int .i64 (-1)) ∧ x ∉ l)) := by
  have hmf : ∀ (fn : Fn) (first cap : Array Value) (w : World), (Instr.makeFunc fn first cap).run Try.prog w = .ok (.func fn first cap) w := fun _ _ _ _ => rfl
  have HI := hid (index_any (h.alloc (.cells #[.int .i64 0] 3)) hl x)
  clear h
  go_enter_defers Try.func21, Try.ntmps21
  go_wp2_with (go_at_call 23; refine HI.out.mono ?_; rintro e w' ⟨rfl, ⟨n, rfl, hn⟩ | ⟨rfl, hn⟩⟩)
  all_goals
    refine leaves_cons (f := 22) (args := #[.pointer (some ⟨w.heap.size, 0, none⟩)]) (by simp) (by simp [go_sem]) ?_
    refine (catch_idle ⟨w.heap.size, 0, none⟩ _).mono ?_
    rintro e u' w'' ⟨rfl, rfl, rfl⟩
  · simp [Leaves, settle, results, Try.results21, go_sem]
    exact ⟨(Below.refl _ _).alloc (Nat.le_refl _) _, n, rfl, hn⟩
  · simp [Leaves, settle, results, Try.results21, go_sem]
    exact ⟨(Below.refl _ _).alloc (Nat.le_refl _) _, hn⟩

theorem Try.info_int : (Try.prog.info? 3).map (fun i => (i.zero, i.size, i.bytes)) = some (some (.int .i64 0), 1, 8) := by kernel_rfl

/-- The values that a table keeps. -/
structure Vals (w : World) (B p : Nat) (f : Nat → Value) (l : List Int) : Prop where
  row : w.rowIs p 54 4354 f
  own : Own1 w B (f 0) l
  apart : (f 0).ownBlock ≠ some p

theorem Own1.step {w w' : World} {B : Nat} {v : Value} {l : List Int} (h : Own1 w B v l) (hb : ∀ k, v.ownBlock = some k → w'.heap[k]? = w.heap[k]?) : Own1 w' B v l := by
  refine ⟨h.1, ?_⟩
  rcases h.2 with h1 | ⟨g, cap, cur, e, h2, h3, h4⟩
  · exact .inl h1
  · exact .inr ⟨g, cap, cur, e, h2, by rw [hb g (by rw [e]; rfl)]; exact h3, h4⟩

theorem Vals.step {w w' : World} {B p : Nat} {f : Nat → Value} {l : List Int} (h : Vals w B p f l) (hb : Below w.heap.size w w') : Vals w' B p f l :=
  ⟨h.row.of_block (hb.block p h.row.lt), h.own.step (fun k hk => hb.block k (h.own.lt k hk).2), h.apart⟩

/-- What keep leaves. -/
def Kept (w : World) (B p : Nat) (f : Nat → Value) (l : List Int) (x : Int) (e : Ending) (w' : World) : Prop :=
  ∃ (n : Nat) (v : Value) (l' : List Int), e = .returned (.int .u16 n) ∧ l'[n]? = some x ∧ ((l' = l ∧ x ∈ l) ∨ (l' = l ++ [x] ∧ x ∉ l)) ∧ Vals w' B p (fun j => if j = 0 then v else f j) l' ∧
    Chg (fun k => k = p ∨ (f 0).ownBlock = some k) w w' ∧ (v.ownBlock = (f 0).ownBlock ∨ ∃ g, v.ownBlock = some g ∧ w.heap.size ≤ g)

theorem wrap_u16 (n : Int) (h : 0 ≤ n) (h' : n < 65536) : IntKind.u16.wrap n = n := by
  simp [IntKind.wrap, IntKind.bits, IntKind.signed]; omega

theorem keep_end {w w1 w2 : World} {B p : Nat} {f : Nat → Value} {l : List Int} {x : Int} {v0 v' : Value} (h : Vals w1 B p f l) (hv : f 0 = v0) (hb : Below w.heap.size w w1) (hx : x ∉ l)
    (ho : w2.ownsRow B 3 1 v' (l.length + 1) (ints l ++ [.int .i64 x])) (hg : (w1.alloc (.cells #[.int .i64 x] 3)).grownBy w2 v0.ownBlock) (hs : v'.ownBlock = v0.ownBlock ∨ v'.ownBlock = some (w1.heap.size + 1)) :
    w2.cell? ⟨p, 0, none⟩ = some v0 ∧ w2.frozen? ⟨p, 0, none⟩ = false ∧ Hid (Kept w B p f l x (.returned (.int .u16 l.length)) (w2.setCell ⟨p, 0, none⟩ v')) := by
  subst hv
  have hlt := h.row.lt
  have hblk : w2.heap[p]? = w1.heap[p]? := (hg.block p (by simp; omega) (fun e => h.apart e.symm)).trans (Below.heap_alloc _ _ _ hlt)
  have hr := h.row.of_block hblk
  have hne : v'.ownBlock ≠ some p := by
    rcases hs with e | e
    · rw [e]; exact h.apart
    · rw [e]; simp; omega
  refine ⟨hr.cell (by omega), hr.frozen 0, l.length, v', l ++ [x], rfl, by simp, .inr ⟨rfl, hx⟩, ⟨hr.set 0 v', ?_, ?_⟩, ?_, ?_⟩
  · show Own1 _ B (if 0 = 0 then v' else f 0) _
    rw [if_pos rfl]
    have ho' : Own1 w2 B v' (l ++ [x]) := by
      show w2.ownsRow _ _ _ _ _ _
      rw [ints_snoc, List.length_append]; exact ho
    exact ho'.step (fun k hk => Below.heap_setCell _ _ _ _ (fun e => hne (by rw [hk, e])))
  · show (if 0 = 0 then v' else f 0).ownBlock ≠ _
    rw [if_pos rfl]; exact hne
  · have c1 : Chg (fun k => k = p ∨ (f 0).ownBlock = some k) w (w1.alloc (.cells #[.int .i64 x] 3)) := (Chg.of_below hb).alloc _
    exact (c1.grown hg (fun k hk _ => .inr hk)).setCell (fun _ => .inl rfl) _
  · rcases hs with e | e
    · exact .inl e
    · exact .inr ⟨_, e, by have := hb.size; omega⟩

set_option maxHeartbeats 800000 in
theorem keep_any {w : World} {B p : Nat} {f : Nat → Value} {l : List Int} (h : Vals w B p f l) (hl : l.length ≤ 5000) (hB : B ≤ w.heap.size) (x : Int) :
    Calls Try.prog 20 #[.pointer (some ⟨p, 0, none⟩), .int .i64 x] w (Kept w B p f l x) := by
  have HF := hid (find_any h.own (by omega) x)
  have c0 := h.row.cell (i := 0) (by omega)
  obtain ⟨ao, cap, hv, _⟩ := h.own.open
  rw [hv] at c0
  obtain ⟨i0, hi, hz0, hz1, hz2⟩ := info_parts Try.info_int
  have HI := hid (And.intro hi (And.intro hz0 (And.intro hz1 hz2)))
  clear hi hz0 hz1 hz2
  have HV := hid h
  clear h
  have HE := hid hv
  rw [hv] at HF
  clear hv
  go_enter Try.func20, Try.ntmps20
  go_wp2_with fail
  refine HF.out.mono ?_
  rintro e w1 ⟨hb, ⟨n, rfl, hn⟩ | ⟨rfl, hn⟩⟩
  · have H : Hid (Kept w B p f l x (.returned (.int .u16 n)) w1) := by
      refine ⟨n, f 0, l, rfl, hn, .inl ⟨rfl, List.mem_of_getElem? hn⟩, ?_, .of_below hb, .inl rfl⟩
      have := HV.out.step hb
      have e : (fun j => if j = 0 then f 0 else f j) = f := by funext j; split <;> simp_all
      rw [e]; exact this
    have hlt : n < l.length := (List.getElem?_eq_some_iff.1 hn).1
    have h1 : ¬ (n : Int) < 0 := by omega
    have h2 : IntKind.u16.wrap (n : Int) = (n : Int) := wrap_u16 _ (by omega) (by omega)
    clear hn hb HV HE c0 HF HI
    go_wp2_with fail
    go_ret
    exact H.out
  · have HV1 := hid (HV.out.step hb)
    have d0 : w1.cell? ⟨p, 0, none⟩ = some (.slice ao l.length cap) := by rw [← HE.out]; exact HV1.out.row.cell (i := 0) (by omega)
    have HK := hid (fun (w2 : World) (v' : Value) => keep_end (w := w) (w2 := w2) (v' := v') HV1.out HE.out hb hn)
    have hsz : Hid (B ≤ (w1.alloc (.cells #[.int .i64 x] 3)).heap.size) := by have := hb.size; show _ ≤ _; simp; omega
    have hO : Hid ((w1.alloc (.cells #[.int .i64 x] 3)).ownsRow B 3 1 (.slice ao l.length cap) l.length (ints l)) := by
      have := HV1.out.own.alloc (.cells #[.int .i64 x] 3)
      rw [HE.out] at this; exact this
    have h2 : IntKind.u16.wrap (l.length : Int) = (l.length : Int) := wrap_u16 _ (by omega) (by omega)
    clear hn hb HV c0 HF HV1
    go_wp2_with (at_builtin; refine wpList_append_own_at _ rfl (.tmp 23) (.tmp 25) 50 rfl B 3 i0 (.int .i64 0) 1 8 Try.underlying50 HI.out.1 HI.out.2.1 HI.out.2.2.1 HI.out.2.2.2 rfl (by decide) (.slice ao l.length cap) _ _ rfl hO.out ⟨w1.heap.size, 0, none⟩ 1 1 [.int .i64 x] rfl rfl (cell_one_new _ _ _) (ints_oneCell .i64 [x]) (by unfold maxLen; omega) (by omega) hsz.out ?_; intro v' w2 ho hg hnil hloc; obtain ⟨ao', cap', rfl⟩ := own_slice ho; obtain ⟨d1, d2, HN⟩ := HK.out _ _ ho hg (hloc.imp id (fun h => by simpa using h)); clear ho hg hnil hloc)
    go_ret
    exact HN.out
end Go.Proofs.Ytpfnljebofgifab
