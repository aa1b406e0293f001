import Derived.Test.YtclcmkklonnalaaGreatUtf0x9
import Derived.Test.YtclcmkklonnalaaGreatBld
import Derived.Lib.BufSteps
namespace Go.Proofs.YtclcmkklonnalaaGreat.Ut
open Go.RowKit

theorem encodeRune_eq (r : Int) (h : scB r = true) : Lib.encodeRune r = (encS r).data.toList := by
  have hr : (0 ≤ r ∧ r < 55296) ∨ (57343 < r ∧ r ≤ 1114111) := of_decide_eq_true h
  obtain ⟨E1, E2, E3, E4⟩ := encode_cases r h
  unfold Lib.encodeRune
  by_cases h1 : r < 128
  · rw [E1 h1, Lib.encodeRuneZ_one (by omega) (by omega)]; rfl
  · by_cases h2 : r < 2048
    · rw [E2 (by omega) h2, Lib.encodeRuneZ_two (by omega) (by omega)]; rfl
    · by_cases h3 : r < 65536
      · rw [E3 (by omega) h3, Lib.encodeRuneZ_three (by omega)]; rfl
      · rw [E4 (by omega), Lib.encodeRuneZ_four (by omega) (by omega)]; rfl

/-- Each fault by one sign. -/
def pieceL (l : List UInt8) : List UInt8 := if okL l then l.take (fit l) else [239, 191, 189]
def repF (l : List UInt8) : Nat → Nat → List UInt8
  | 0, _ => []
  | f + 1, i => if i < l.length then pieceL (l.drop i) ++ repF l f (i + fit (l.drop i)) else []
def repL (l : List UInt8) : List UInt8 := repF l l.length 0
theorem repF_end (l : List UInt8) (f i : Nat) (h : ¬ i < l.length) : repF l f i = [] := by
  cases f with
  | zero => rfl
  | succ f => simp [repF, h]

/-- The rune that the language gives at a place is what WriteRune writes as the piece. -/
theorem piece_rune (s : ByteArray) (i : Nat) (h : i < s.size) : Lib.encodeRune ((Utf8.decode s i).1 : Nat) = pieceL (s.data.toList.drop i) := by
  rw [decode_eq s i h]
  unfold pieceL
  by_cases ho : okL (s.data.toList.drop i) = true
  · obtain ⟨a, b, _, _⟩ := ok_facts _ ho
    rw [if_pos ho, if_pos ho, encodeRune_eq _ a, ← b]
    unfold encS; rw [if_pos a]
  · rw [if_neg ho, if_neg ho]; decide +kernel

theorem piece_len (l : List UInt8) (h : l ≠ []) : 1 ≤ (pieceL l).length ∧ (pieceL l).length ≤ 3 * fit l ∧ (pieceL l).length ≤ 4 := by
  obtain ⟨f1, f4, _, _⟩ := fit_spec l
  have := fit_le l h
  unfold pieceL
  split
  · rw [List.length_take]; omega
  · simp; omega

theorem below_grown {w w' : World} (h : Below w.heap.size w w') : w.grownBy w' none := ⟨h.os, h.tape, h.output, h.size, fun k hk _ => h.block k hk⟩
theorem bld_below {T e : TypeId} {B b : Nat} {bs : List Value} {w w' : World} (h : Lib.IsBuilderF T e B b bs w) (hb : Below w.heap.size w w') : Lib.IsBuilderF T e B b bs w' := by
  have one : ∀ p, Lib.BuilderAtF T e B b p bs w → Lib.BuilderAtF T e B b p bs w' := by
    intro p hp
    have hlt := hp.lt
    obtain ⟨hB, v, hbk, hown, hne⟩ := hp
    exact ⟨hB, v, (hb.block b hlt).trans hbk, hown.kept (below_grown hb) (by cases v.ownBlock <;> simp), hne⟩
  rcases h with h | h
  · exact .inl (one _ h)
  · exact .inr (one _ h)

/-- A builder, and an iterator behind it. -/
def BI (B : Nat) (W0 : World) (s : ByteArray) (pos : Nat) (acc : List UInt8) (w : World) : Prop :=
  Lib.IsBuilderF 126 5 B B (Lib.byteCells acc) w ∧ w.heap[B + 1]? = some (.stringIter s pos) ∧ Below B W0 w
theorem BI.next {B : Nat} {W0 w : World} {s : ByteArray} {pos : Nat} {acc : List UInt8} (h : BI B W0 s pos acc w) (p : Nat) : BI B W0 s p acc (w.iterAt (B + 1) s p) :=
  ⟨h.1.iterAt h.2.1 p, Lib.iterAt_heap w (B + 1) s pos p h.2.1, Lib.below_iterAt h.2.2 (by omega) s p⟩
theorem BI.step {B : Nat} {W0 w w' : World} {s : ByteArray} {pos : Nat} {acc : List UInt8} (h : BI B W0 s pos acc w) (h' : Below w.heap.size w w') : BI B W0 s pos acc w' := by
  have hlt : B + 1 < w.heap.size := (Array.getElem?_eq_some_iff.1 h.2.1).1
  exact ⟨bld_below h.1 h', (h'.block (B + 1) hlt).trans h.2.1, h.2.2.trans (h'.mono (by omega))⟩
theorem BI.lt {B : Nat} {W0 w : World} {s : ByteArray} {pos : Nat} {acc : List UInt8} (h : BI B W0 s pos acc w) : B + 1 < w.heap.size := (Array.getElem?_eq_some_iff.1 h.2.1).1
theorem BI.put {B : Nat} {W0 w w' : World} {s : ByteArray} {pos : Nat} {acc more : List UInt8} (h : BI B W0 s pos acc w) (h1 : Lib.BuilderAtF 126 5 B B (.pointer (some ⟨B, 0, none⟩)) (Lib.byteCells acc ++ Lib.byteCells more) w') (h2 : Below B w w') (h3 : Lib.OthersKept 5 (some B) w w') : BI B W0 s pos (acc ++ more) w' :=
  ⟨.inr (by rw [Lib.byteCells_append]; exact h1), h3.iter h.2.1 (by omega), h.2.2.trans h2⟩
theorem BI.start (w : World) (s : ByteArray) : BI w.heap.size w s 0 [] ((w.alloc (.cells #[.pointer none, .slice none 0 0] 126)).iter s 0) := by
  refine ⟨(Lib.IsBuilderF.of (Lib.fresh_isBuilder 126 5 w)).alloc _, ?_, ((Below.refl _ w).alloc (Nat.le_refl _) _).alloc (by simp) _⟩
  have := World.iter_heap (w.alloc (.cells #[.pointer none, .slice none 0 0] 126)) s 0
  simpa using this

/-- WriteRune, at such a world. -/
theorem wr_any (B : Nat) (W0 w : World) (s : ByteArray) (pos i : Nat) (acc : List UInt8) (h : BI B W0 s pos acc w) (hi : i < s.size) (hlen : acc.length + 4 ≤ 140737488355328) :
    Calls Tryz.prog 82 #[.pointer (some ⟨B, 0, none⟩), .int .i32 ((Utf8.decode s i).1 : Nat)] w fun e w' => e = .returned (.tuple #[.int .i64 (Lib.runeCells ((Utf8.decode s i).1 : Nat)).length, .nilIface]) ∧ BI B W0 s pos (acc ++ pieceL (s.data.toList.drop i)) w' := by
  have hd := decode_le s i
  refine (wrune_any B B (Lib.byteCells acc) ((Utf8.decode s i).1 : Nat) (by omega) (by omega) w h.1 (by rw [Lib.byteCells_length]; omega) (by have := h.lt; omega)).mono ?_
  rintro e w' ⟨rfl, h1, h2, h3⟩
  rw [← Lib.byteCells_encodeRune, piece_rune s i hi] at h1
  exact ⟨rfl, h.put h1 h2 h3⟩

end Go.Proofs.YtclcmkklonnalaaGreat.Ut

namespace Go.Proofs.YtclcmkklonnalaaGreat.Ut
open Go.RowKit

theorem ret_pair {a b : ByteArray} {c d : Int} (h : a = b) (h' : c = d) : Ending.returned (.tuple #[.string a, .int .i64 c]) = .returned (.tuple #[.string b, .int .i64 d]) := by rw [h, h']
theorem app_list (a b : ByteArray) : (a ++ b).data.toList = a.data.toList ++ b.data.toList := by simp
theorem app_size (a b : ByteArray) : (a ++ b).size = a.size + b.size := by simp


/-- A scalar value's bytes alone: no fault, one part. -/
theorem one_part (p : List UInt8) (h : okL p = true) (hf : fit p = p.length) : faultL p = -1 ∧ countL p = 1 := by
  have hne := ((okL_iff p).1 h).1
  have hl : 1 ≤ p.length := by rw [← hf]; exact (fit_spec p).1
  obtain ⟨m, hm⟩ : ∃ m, p.length = m + 1 := ⟨p.length - 1, by omega⟩
  unfold faultL countL
  rw [hm]
  simp only [faultF, countF, List.drop_zero]
  rw [if_pos (by omega), h, if_pos rfl, hf, Nat.zero_add, faultF_end p m p.length (by omega), if_pos (by omega), countF_end p m p.length (by omega)]
  exact ⟨rfl, rfl⟩

theorem piece_one (l : List UInt8) : faultL (pieceL l) = -1 ∧ countL (pieceL l) = 1 := by
  unfold pieceL
  by_cases ho : okL l = true
  · rw [if_pos ho]
    obtain ⟨a, b, c, _⟩ := ok_facts l ho
    obtain ⟨o1, _, o3⟩ := enc_ok (valL l) a []
    have e : (encS (valL l)).data.toList = l.take (fit l) := by unfold encS; rw [if_pos a]; exact b
    have e2 : (encS (valL l)).size = (l.take (fit l)).length := by rw [← e, len_size]
    rw [List.append_nil, e] at o1 o3
    exact one_part _ o1 (by rw [o3, e2])
  · rw [if_neg ho]; decide +kernel

theorem rep_sound (l : List UInt8) : ∀ f i, faultL (repF l f i) = -1 ∧ countL (repF l f i) = countF l f i
  | 0, i => by exact ⟨rfl, rfl⟩
  | f + 1, i => by
    simp only [repF, countF]
    by_cases hi : i < l.length
    · rw [if_pos hi, if_pos hi]
      obtain ⟨p1, p2⟩ := piece_one (l.drop i)
      obtain ⟨j1, j2⟩ := joins (pieceL (l.drop i)) (repF l f (i + fit (l.drop i))) (by omega)
      obtain ⟨r1, r2⟩ := rep_sound l f (i + fit (l.drop i))
      rw [j1, j2, r1, r2, p2, if_neg (by omega)]
      exact ⟨rfl, rfl⟩
    · rw [if_neg hi, if_neg hi]; exact ⟨rfl, rfl⟩

theorem rep_stays (l : List UInt8) : ∀ f i, i ≤ l.length → l.length ≤ i + f → faultF l f i < 0 → repF l f i = l.drop i
  | 0, i, h1, h2, _ => by rw [List.drop_of_length_le (by omega)]; rfl
  | f + 1, i, h1, h2, h3 => by
    simp only [repF, faultF] at h3 ⊢
    by_cases hi : i < l.length
    · rw [if_pos hi] at h3 ⊢
      by_cases ho : okL (l.drop i) = true
      · rw [if_pos ho] at h3
        have f1 := (fit_spec (l.drop i)).1
        have f2 := fit_le (l.drop i) ((okL_iff _).1 ho).1
        rw [List.length_drop] at f2
        rw [rep_stays l f (i + fit (l.drop i)) (by omega) (by omega) h3]
        unfold pieceL
        rw [if_pos ho, ← List.drop_drop]
        exact List.take_append_drop _ _
      · rw [if_neg ho] at h3; omega
    · rw [if_neg hi, List.drop_of_length_le (by omega)]

theorem repL_sound (l : List UInt8) : faultL (repL l) = -1 ∧ countL (repL l) = countL l := rep_sound l l.length 0
theorem repL_stays (l : List UInt8) (h : faultL l < 0) : repL l = l := by
  have := rep_stays l l.length 0 (by omega) (by omega) h
  rwa [List.drop_zero] at this
theorem repL_twice (l : List UInt8) : repL (repL l) = repL l := repL_stays _ (by have := (repL_sound l).1; omega)
theorem repL_same (l : List UInt8) : (repL l == l) = decide (faultL l < 0) := by
  by_cases h : faultL l < 0
  · rw [repL_stays l h]; simp [h]
  · have hne : repL l ≠ l := fun e => by have := (repL_sound l).1; rw [e] at this; omega
    simp [h, hne]
theorem repL_len (l : List UInt8) : (repL l).length ≤ 3 * l.length := by
  have : ∀ f i, i ≤ l.length → (repF l f i).length ≤ 3 * (l.length - i) := by
    intro f
    induction f with
    | zero => intro i _; simp [repF]
    | succ f ih =>
      intro i hi
      simp only [repF]
      by_cases h : i < l.length
      · rw [if_pos h, List.length_append]
        have hne : l.drop i ≠ [] := by intro e; have := congrArg List.length e; simp at this; omega
        have f2 := fit_le _ hne
        rw [List.length_drop] at f2
        have := piece_len _ hne
        have := ih (i + fit (l.drop i)) (by omega)
        omega
      · rw [if_neg h]; simp
  have := this l.length 0 (by omega)
  unfold repL; omega
end Go.Proofs.YtclcmkklonnalaaGreat.Ut

namespace Go.Proofs.YtclcmkklonnalaaGreat.Ut
open Go.RowKit

/-- A slice that holds these numbers. -/
def Sl (k : IntKind) (w : World) (v : Value) (zs : List Int) : Prop :=
  (zs = [] ∧ ∃ a cap, v = .slice a 0 cap) ∨ ∃ b off cap, v = .slice (some ⟨b, off, none⟩) zs.length cap ∧ b < w.heap.size ∧ ∀ j (h : j < zs.length), w.cell? ⟨b, off + j, none⟩ = some (.int k zs[j])

theorem Sl.below {k : IntKind} {w w' : World} {v : Value} {zs : List Int} {B : Nat} (h : Sl k w v zs) (hb : Below B w w') (hB : w.heap.size ≤ B) : Sl k w' v zs := by
  rcases h with h | ⟨b, off, cap, e, hlt, hc⟩
  · exact .inl h
  · exact .inr ⟨b, off, cap, e, by have := hb.size; omega, fun j hj => by rw [hb.cell (p := ⟨b, off + j, none⟩) (by show b < B; omega)]; exact hc j hj⟩
theorem Sl.step {k : IntKind} {w w' : World} {v : Value} {zs : List Int} (h : Sl k w v zs) (hb : Below w.heap.size w w') : Sl k w' v zs := h.below hb (Nat.le_refl _)

def ivs (k : IntKind) (zs : List Int) : List Value := zs.map (Value.int k)
theorem ivs_snoc (k : IntKind) (zs : List Int) (z : Int) : ivs k (zs ++ [z]) = ivs k zs ++ [.int k z] := by simp [ivs]
theorem ivs_len (k : IntKind) (zs : List Int) : (ivs k zs).length = zs.length := by simp [ivs]

theorem Sl.of_own {k : IntKind} {w : World} {B : Nat} {e : TypeId} {v : Value} {zs : List Int} (h : w.ownsRowF B e 1 v zs.length (ivs k zs)) : Sl k w v zs := by
  rcases h.2 with ⟨rfl, hn⟩ | ⟨g, cap, cur, fz, hv, _, hg, _⟩
  · exact .inl ⟨List.eq_nil_of_length_eq_zero hn, none, 0, rfl⟩
  · refine .inr ⟨g, 0, cap, hv, (Array.getElem?_eq_some_iff.1 hg).1, fun j hj => ?_⟩
    have := h.cells (g := g) (by rw [hv]; rfl) j (.int k zs[j]) (by simp [ivs, hj])
    unfold Addr.add at this
    by_cases h0 : j = 0
    · subst h0; simpa using this
    · rw [if_neg h0] at this; simpa using this

/-- 'append(s, x)' of one value. -/
theorem append_one {P : Program} {ops : Array Oper} {rest : List Oper} {o : Oper} {a : Act} {Q : Exit → Act → World → Prop} (hgd : o.guard = none) (s x : Operand) (t : TypeId)
    (ho : o.op = .call { callee := .builtin .append, args := #[s, x], argTypes := #[t, t] })
    (B : Nat) (e : TypeId) (i : TypeInfo) (z : Value) (bytes : Nat) (ht : P.underlying t = some (.slice e)) (hi : P.info? e = some i) (hz : i.zero = some z) (hsize : i.size = 1) (hby : i.bytes = bytes) (hzs : z.cells.size = 1)
    (v : Value) (n : Nat) (xs : List Value) (hs : a.eval s = v) (w0 : World) (c : Value) (hc : c.oneCell' = true) (hown : w0.ownsRowF B e 1 v n xs) (hBw : B ≤ w0.heap.size)
    (hx : a.eval x = .slice (some ⟨w0.heap.size, 0, none⟩) 1 1) (hlen : (n + 1) * bytes ≤ 140737488355328) (hmax : n + 1 ≤ maxLen)
    (h : ∀ v' w', w'.ownsRowF B e 1 v' (n + 1) (xs ++ [c]) → (w0.alloc (.cells #[c] e)).grownBy w' v.ownBlock → wpList P ops Q rest (a.put o.dst v') w') : wpList P ops Q (o :: rest) a (w0.alloc (.cells #[c] e)) := by
  refine wpList_append_ownF _ hgd s x t ho B e i z 1 bytes ht hi hz hsize hby hzs (by decide) v n xs hs (hown.alloc _) ⟨w0.heap.size, 0, none⟩ 1 1 [c] hx rfl ?_ ?_ hmax hlen (by simp; omega) ?_
  · intro j u hj
    match j, hj with
    | 0, hj => simp at hj; subst hj; simp [Addr.add]
    | (j + 1), hj => simp at hj
  · intro u hu; simp at hu; subst hu; exact hc
  · intro v' w' ho' hg _
    exact h v' w' ho' hg

theorem Tryz.info_i32 : (Tryz.prog.info? 21).map (fun i => (i.zero, i.size, i.bytes)) = some (some (.int .i32 0), 1, 4) := by kernel_rfl
theorem Tryz.info_i64 : (Tryz.prog.info? 3).map (fun i => (i.zero, i.size, i.bytes)) = some (some (.int .i64 0), 1, 8) := by kernel_rfl

/-- The scalar values of a text, one behind the other. -/
def runesF (l : List UInt8) : Nat → Nat → List Int
  | 0, _ => []
  | f + 1, i => if i < l.length then (valL (l.drop i) : Int) :: runesF l f (i + fit (l.drop i)) else []
def runesL (l : List UInt8) : List Int := runesF l l.length 0
theorem runesF_end (l : List UInt8) (f i : Nat) (h : ¬ i < l.length) : runesF l f i = [] := by
  cases f with
  | zero => rfl
  | succ f => simp [runesF, h]

/-- An iterator, and a row of the call's own behind it. -/
def ItOwn (B : Nat) (W0 : World) (s : ByteArray) (pos : Nat) (v : Value) (zs : List Int) (w : World) : Prop :=
  It B W0 s pos w ∧ w.ownsRowF (B + 1) 21 1 v zs.length (ivs .i32 zs)
theorem ItOwn.lt {B : Nat} {W0 w : World} {s : ByteArray} {pos : Nat} {v : Value} {zs : List Int} (h : ItOwn B W0 s pos v zs w) : B < w.heap.size := (Array.getElem?_eq_some_iff.1 h.1.1).1
theorem ItOwn.next {B : Nat} {W0 w : World} {s : ByteArray} {pos : Nat} {v : Value} {zs : List Int} (h : ItOwn B W0 s pos v zs w) (p : Nat) : ItOwn B W0 s p v zs (w.iterAt B s p) := by
  refine ⟨h.1.next p, h.2.kept (row := some B) ⟨rfl, rfl, rfl, by rw [Lib.iterAt_size]; exact Nat.le_refl _, fun k _ hk => Lib.iterAt_other w B k s p (fun e => hk (by rw [e]))⟩ ?_⟩
  cases hv : v.ownBlock with
  | none => exact .inl rfl
  | some g => exact .inr (fun e => by have := (h.2.lt g hv).1; simp at e; omega)
theorem ItOwn.put {B : Nat} {W0 w w' : World} {s : ByteArray} {pos : Nat} {v v' : Value} {zs : List Int} {z : Int} {o : Obj} (h : ItOwn B W0 s pos v zs w) (h1 : w'.ownsRowF (B + 1) 21 1 v' (zs.length + 1) (ivs .i32 zs ++ [.int .i32 z])) (h2 : (w.alloc o).grownBy w' v.ownBlock) : ItOwn B W0 s pos v' (zs ++ [z]) w' := by
  have hlt := h.lt
  have hne : some B ≠ v.ownBlock := fun e => by have := (h.2.lt B e.symm).1; omega
  refine ⟨⟨?_, ?_⟩, ?_⟩
  · rw [h2.block B (by simp; omega) hne, Below.heap_alloc w o B hlt]; exact h.1.1
  · exact (h.1.2.alloc (by omega) o).grown h2 (by simp; omega) (fun k hk => by have := (h.2.lt k hk).1; omega)
  · rw [ivs_snoc, List.length_append]; exact h1

set_option maxHeartbeats 2000000 in
theorem runes_own (s : ByteArray) (w : World) (hs : s.size ≤ 1000000) :
    Calls Tryz.prog 41 #[.string s] w fun e w' => (0 ≤ faultL s.data.toList ∧ e = .returned (.tuple #[.slice none 0 0, .bool false]) ∨ faultL s.data.toList < 0 ∧ ∃ v B, e = .returned (.tuple #[v, .bool true]) ∧ w'.ownsRowF B 21 1 v (runesL s.data.toList).length (ivs .i32 (runesL s.data.toList))) ∧ Below w.heap.size w w' := by
  obtain ⟨i0, hi, hz0, hz1, hz2⟩ := info_parts Tryz.info_i32
  go_enter Tryz.func41, Tryz.ntmps41
  go_wp2
  go_loopw [4] (fun v wr => ∃ (pos fuel : Nat) (zs : List Int), ItOwn w.heap.size w s pos v zs wr ∧ pos ≤ s.size ∧ zs.length ≤ pos ∧ s.size ≤ pos + fuel ∧ Hid (zs ++ runesF s.data.toList fuel pos = runesL s.data.toList) ∧ Hid (faultF s.data.toList fuel pos = faultL s.data.toList)) (fun _ wr => s.size - wr.iterPos w.heap.size)
  case atStart => exact ⟨0, s.size, [], ⟨It.start w s, World.ownsRowF_nil _ _ _ _⟩, by omega, by simp, by omega, by show _ = _; unfold runesL; rw [len_size]; rfl, by show _ = _; unfold faultL; rw [len_size]⟩
  case round =>
    obtain ⟨pos, fuel, zs, hit, hps, hzl, hfu, hR, hF⟩ := hrel
    by_cases hp : pos < s.size
    · have hnx : ∀ ty, (Instr.next (.pointer (some ⟨w.heap.size, 0, none⟩)) true ty).run Tryz.prog wr = _ := fun ty => Lib.run_next_any_at wr w.heap.size s pos ty hit.1.1 hp
      have hd := decode_eq s pos hp
      have hfa := fun w => fault_at s pos w hp
      have hit2 := hit.next (pos + (Utf8.decode s pos).2)
      have HM : Hid (s.size - wr.iterPos w.heap.size = s.size - pos) := by show _ = _; simp [World.iterPos, hit.1.1]
      obtain ⟨f, rfl⟩ : ∃ f, fuel = f + 1 := ⟨fuel - 1, by omega⟩
      have hF2 := hF.out
      have hR2 := hR.out
      simp only [faultF, runesF] at hF2 hR2
      rw [if_pos (by rw [len_size]; exact hp)] at hF2 hR2
      have f1 := (fit_spec (s.data.toList.drop pos)).1
      have f2 := fit_le _ (drop_ne s pos hp)
      rw [List.length_drop, len_size] at f2
      by_cases ho : okL (s.data.toList.drop pos) = true
      · rw [if_pos ho] at hd hF2
        rw [hd] at hnx hit2
        rw [hd, ho] at hfa
        have HF : Hid (∀ w, Calls Tryz.prog 80 #[.string s, .int .i64 pos, .int .i32 (valL (s.data.toList.drop pos))] w fun e w' => e = .returned (.bool false) ∧ w' = w) := hfa
        have H2 : Hid (faultF s.data.toList f (pos + fit (s.data.toList.drop pos)) = faultL s.data.toList) := hF2
        have H3 : Hid (zs ++ [(valL (s.data.toList.drop pos) : Int)] ++ runesF s.data.toList f (pos + fit (s.data.toList.drop pos)) = runesL s.data.toList) := by show _ = _; rw [List.append_assoc]; exact hR2
        clear hfa hd ho hF2 hF hR hR2 hit
        generalize fit (s.data.toList.drop pos) = m at *
        generalize valL (s.data.toList.drop pos) = vv at *
        have HI : Hid (ItOwn w.heap.size w s (pos + m) _ zs (wr.iterAt w.heap.size s (pos + m))) := hit2
        have hlt : Hid (w.heap.size + 1 ≤ (wr.iterAt w.heap.size s (pos + m)).heap.size) := hit2.lt
        clear hit2
        go_wp2_with (first | (go_at_call 80; refine (HF.out _).mono ?_; rintro e w' ⟨rfl, rfl⟩) | (at_builtin; refine append_one rfl (.tmp 17) (.tmp 19) 22 rfl (w.heap.size + 1) 21 i0 (.int .i32 0) 4 Tryz.underlying22 hi hz0 hz1 hz2 rfl _ zs.length (ivs .i32 zs) rfl _ _ rfl HI.out.2 hlt.out rfl (by omega) (by unfold maxLen; omega) ?_; intro v' w1 ho1 hg1))
        go_roundw
        case rel => exact ⟨pos + m, f, zs ++ [(vv : Int)], HI.out.put ho1 hg1, by omega, by simp; omega, by omega, H3, H2⟩
        case measure => rw [HM.out]; simp only [World.iterPos, (HI.out.put ho1 hg1).1.1]; omega
      · have ho' : okL (s.data.toList.drop pos) = false := by simpa using ho
        rw [if_neg ho] at hd hF2
        rw [hd] at hnx hit2
        rw [hd, ho'] at hfa
        have HF : Hid (∀ w, Calls Tryz.prog 80 #[.string s, .int .i64 pos, .int .i32 65533] w fun e w' => e = .returned (.bool true) ∧ w' = w) := hfa
        have H2 : Hid ((pos : Int) = faultL s.data.toList) := hF2
        have HI : Hid (ItOwn w.heap.size w s (pos + 1) _ zs (wr.iterAt w.heap.size s (pos + 1))) := hit2
        clear hfa hd ho ho' hF2 hF hit2 hit f1 f2 hR hR2
        go_wp2_with (first | (go_at_call 80; refine (HF.out _).mono ?_; rintro e w' ⟨rfl, rfl⟩))
        go_ret2
        exact ⟨.inl ⟨by rw [← H2.out]; omega, rfl⟩, HI.out.1.2⟩
    · have hnx : ∀ ty, (Instr.next (.pointer (some ⟨w.heap.size, 0, none⟩)) true ty).run Tryz.prog wr = _ := fun ty => Lib.run_next_end_at wr w.heap.size s pos ty hit.1.1 hp
      have H2 : Hid (faultL s.data.toList = -1) := by
        show _ = _; rw [← hF.out, faultF_end _ _ _ (by rw [len_size]; exact hp)]
      have H3 : Hid (zs = runesL s.data.toList) := by
        show _ = _; rw [← hR.out, runesF_end _ _ _ (by rw [len_size]; exact hp), List.append_nil]
      have HI : Hid (ItOwn w.heap.size w s pos _ zs wr) := hit
      clear hF hit hR
      go_wp2_with fail
      go_ret2
      exact ⟨.inr ⟨by rw [H2.out]; omega, _, _, rfl, by rw [← H3.out]; exact HI.out.2⟩, HI.out.1.2⟩
theorem runes_any (s : ByteArray) (w : World) (hs : s.size ≤ 1000000) :
    Calls Tryz.prog 41 #[.string s] w fun e w' => (0 ≤ faultL s.data.toList ∧ e = .returned (.tuple #[.slice none 0 0, .bool false]) ∨ faultL s.data.toList < 0 ∧ ∃ v, e = .returned (.tuple #[v, .bool true]) ∧ Sl .i32 w' v (runesL s.data.toList)) ∧ Below w.heap.size w w' :=
  (runes_own s w hs).mono (fun _ _ h => ⟨h.1.imp id (fun ⟨a, v, _, b, c⟩ => ⟨a, v, b, Sl.of_own c⟩), h.2⟩)

/-- The bytes of scalar values; of other numbers none. -/
def textL (zs : List Int) : List UInt8 := zs.flatMap fun r => (encS r).data.toList
theorem textL_snoc (zs : List Int) (z : Int) : textL (zs ++ [z]) = textL zs ++ (encS z).data.toList := by simp [textL]
theorem encS_le (r : Int) : (encS r).size ≤ 4 := by
  by_cases h : scB r = true
  · rw [← (enc_ok r h []).2.2]; exact (fit_spec _).2.1
  · unfold encS; rw [if_neg h]; decide
theorem textL_len (zs : List Int) : (textL zs).length ≤ 4 * zs.length := by
  induction zs with
  | nil => simp [textL]
  | cons z zs ih =>
    have h := encS_le z
    rw [← len_size] at h
    simp only [textL, List.flatMap_cons, List.length_append, List.length_cons] at ih ⊢
    omega

theorem take_snocI (zs : List Int) (k : Nat) (h : k < zs.length) : zs.take (k + 1) = zs.take k ++ [zs[k]] := List.take_succ_eq_append_getElem h

/-- A builder alone. -/
def BO (B : Nat) (W0 : World) (acc : List UInt8) (w : World) : Prop :=
  Lib.IsBuilderF 126 5 B B (Lib.byteCells acc) w ∧ Below B W0 w ∧ B < w.heap.size

theorem wro_any (B : Nat) (W0 w : World) (acc : List UInt8) (r : Int) (hr : scB r = true) (h : BO B W0 acc w) (hlen : acc.length + 4 ≤ 140737488355328) :
    Calls Tryz.prog 82 #[.pointer (some ⟨B, 0, none⟩), .int .i32 r] w fun e w' => e = .returned (.tuple #[.int .i64 (Lib.runeCells r).length, .nilIface]) ∧ BO B W0 (acc ++ (encS r).data.toList) w' := by
  have hb : (0 ≤ r ∧ r < 55296) ∨ (57343 < r ∧ r ≤ 1114111) := of_decide_eq_true hr
  refine (wrune_any B B (Lib.byteCells acc) r (by omega) (by omega) w h.1 (by rw [Lib.byteCells_length]; omega) (by have := h.2.2; omega)).mono ?_
  rintro e w' ⟨rfl, h1, h2, h3⟩
  rw [← Lib.byteCells_encodeRune, encodeRune_eq r hr] at h1
  exact ⟨rfl, .inr (by rw [Lib.byteCells_append]; exact h1), h.2.1.trans h2, by have := h2.size; have := h.2.2; omega⟩

theorem BO.start (w : World) : BO w.heap.size w [] (w.alloc (.cells #[.pointer none, .slice none 0 0] 126)) :=
  ⟨Lib.IsBuilderF.of (Lib.fresh_isBuilder 126 5 w), (Below.refl _ w).alloc (Nat.le_refl _) _, by simp⟩

/-- What Text tells. -/
def textV (zs : List Int) : Value := if zs.all scB then .string ⟨(textL zs).toArray⟩ else .string ⟨#[]⟩

set_option maxHeartbeats 2000000 in
theorem text_cons (b off cap : Nat) (zs : List Int) (w : World) (hb : b < w.heap.size) (hc : ∀ j (h : j < zs.length), w.cell? ⟨b, off + j, none⟩ = some (.int .i32 zs[j])) (hn : zs.length ≤ 1000000) :
    Calls Tryz.prog 42 #[.slice (some ⟨b, off, none⟩) zs.length cap] w fun e w' => e = .returned (.tuple #[textV zs, .bool (zs.all scB)]) ∧ Below w.heap.size w w' := by
  have HC : Hid (∀ j (h : j < zs.length), w.cell? ⟨b, off + j, none⟩ = some (.int .i32 zs[j])) := hc
  clear hc
  go_enter Tryz.func42, Tryz.ntmps42
  go_wp2
  go_loopw [9] (fun i wr => ∃ k : Nat, k ≤ zs.length ∧ i = .int .i64 k ∧ BO w.heap.size w (textL (zs.take k)) wr ∧ Hid ((zs.take k).all scB = true)) (fun i _ => zs.length - (intOf i).toNat)
  case atStart => exact ⟨0, by omega, rfl, BO.start w, rfl⟩
  case round =>
    obtain ⟨k, hk, rfl, hB, hA⟩ := hrel
    by_cases hlt : k < zs.length
    · have hcell : wr.cell? ⟨b, off + k, none⟩ = some (.int .i32 zs[k]) := by rw [hB.2.1.cell (p := ⟨b, off + k, none⟩) hb]; exact HC.out k hlt
      have HT := take_snocI zs k hlt
      have HTL : Hid (textL (zs.take (k + 1)) = textL (zs.take k) ++ (encS zs[k]).data.toList) := by show _ = _; rw [HT, textL_snoc]
      have hlen := textL_len (zs.take k)
      rw [List.length_take] at hlen
      by_cases hsc : scB zs[k] = true
      · have HA : Hid ((zs.take (k + 1)).all scB = true) := by show _ = _; rw [HT, List.all_append, hA.out]; simp [hsc]
        have HW : Hid (∀ w', BO w.heap.size w (textL (zs.take k)) w' → Calls Tryz.prog 82 #[.pointer (some ⟨w.heap.size, 0, none⟩), .int .i32 zs[k]] w' fun e w'' => e = .returned (.tuple #[.int .i64 (Lib.runeCells zs[k]).length, .nilIface]) ∧ BO w.heap.size w (textL (zs.take k) ++ (encS zs[k]).data.toList) w'') := fun w' h => wro_any w.heap.size w w' _ _ hsc h (by omega)
        have HBB : Hid (BO w.heap.size w (textL (zs.take k)) wr) := hB
        clear HT hA hB
        go_wp2_with (first | (go_at_call 81; refine (sc_any _ _).mono ?_; rintro e w' ⟨rfl, hw⟩) | (go_at_call 82; refine (HW.out _ HBB.out).mono ?_; rintro e w' ⟨rfl, hbo⟩))
        go_roundw
        case rel => exact ⟨k + 1, by omega, by go_num, by rw [HTL.out]; exact hbo, HA⟩
        case measure => simp [intOf]; omega
      · have hsc' : scB zs[k] = false := by simpa using hsc
        have hall : zs.all scB = false := by
          rw [← Bool.not_eq_true]; intro h
          exact hsc (List.all_eq_true.1 h _ (List.getElem_mem hlt))
        have HV : Hid (textV zs = .string ⟨#[]⟩) := by show _ = _; unfold textV; rw [hall]; rfl
        have HL : Hid (zs.all scB = false) := hall
        have hbel := hB.2.1
        clear HT hA hsc hall hB
        go_wp2_with (first | (go_at_call 81; refine (sc_any _ _).mono ?_; rintro e w' ⟨rfl, rfl⟩))
        go_ret2
        exact ⟨ret_two HV.out.symm (by rw [HL.out]; rfl), hbel⟩
    · have e1 : zs.take k = zs := List.take_of_length_le (by omega)
      rw [e1] at hB hA
      have HV : Hid (textV zs = .string ⟨(textL zs).toArray⟩) := by show _ = _; unfold textV; rw [hA.out]; rfl
      have hbel := hB.2.1
      have hsz : w.heap.size ≤ wr.heap.size := by have := hB.2.2; omega
      clear e1
      go_wp2_with (first | (go_at_call 83; refine (bstr_any w.heap.size w.heap.size (textL zs) _ hB.1 hsz).mono ?_; rintro e w' ⟨rfl, _, b1, _⟩))
      go_ret2
      exact ⟨ret_two HV.out.symm (by rw [hA.out]; rfl), hbel.trans b1⟩

theorem text_nil (a : Option Addr) (cap : Nat) (w : World) :
    Calls Tryz.prog 42 #[.slice a 0 cap] w fun e w' => e = .returned (.tuple #[textV [], .bool true]) ∧ Below w.heap.size w w' := by
  have hB := BO.start w
  go_enter Tryz.func42, Tryz.ntmps42
  go_wp2
  go_loopw [9] (fun i wr => i = .int .i64 0 ∧ wr = w.alloc (.cells #[.pointer none, .slice none 0 0] 126)) (fun _ _ => 0)
  case atStart => exact ⟨rfl, rfl⟩
  case round =>
    obtain ⟨rfl, rfl⟩ := hrel
    go_wp2_with (first | (go_at_call 83; refine (bstr_any w.heap.size w.heap.size [] _ hB.1 (by simp)).mono ?_; rintro e w' ⟨rfl, _, b1, _⟩))
    go_ret2
    exact ⟨rfl, hB.2.1.trans b1⟩

theorem text_any (v : Value) (zs : List Int) (w : World) (h : Sl .i32 w v zs) (hn : zs.length ≤ 1000000) :
    Calls Tryz.prog 42 #[v] w fun e w' => e = .returned (.tuple #[textV zs, .bool (zs.all scB)]) ∧ Below w.heap.size w w' := by
  rcases h with ⟨rfl, a, cap, rfl⟩ | ⟨b, off, cap, rfl, hb, hc⟩
  · exact text_nil a cap w
  · exact text_cons b off cap zs w hb hc hn
end Go.Proofs.YtclcmkklonnalaaGreat.Ut

namespace Go.Proofs.YtclcmkklonnalaaGreat.Ut
open Go.RowKit

/-- What a call owns from B on, and that nothing below has turned. -/
def OwnI (B : Nat) (W0 : World) (v : Value) (zs : List Int) (w : World) : Prop := w.ownsRowF B 3 1 v zs.length (ivs .i64 zs) ∧ Ok B W0 w
theorem OwnI.put {B : Nat} {W0 w w' : World} {v v' : Value} {zs : List Int} {z : Int} {o : Obj} (h : OwnI B W0 v zs w) (h1 : w'.ownsRowF B 3 1 v' (zs.length + 1) (ivs .i64 zs ++ [.int .i64 z])) (h2 : (w.alloc o).grownBy w' v.ownBlock) : OwnI B W0 v' (zs ++ [z]) w' := by
  refine ⟨by rw [ivs_snoc, List.length_append]; exact h1, ?_, ?_⟩
  · exact (h.2.1.alloc h.2.2 o).grown h2 (by have := h.2.2; simp; omega) (fun k hk => (h.1.lt k hk).1)
  · have h3 := h2.size; have h4 := h.2.2; rw [World.size_alloc] at h3; omega
theorem OwnI.step {B : Nat} {W0 w w' : World} {v : Value} {zs : List Int} (h : OwnI B W0 v zs w) (h' : Below w.heap.size w w') : OwnI B W0 v zs w' :=
  ⟨h.1.kept (below_grown h') (by cases v.ownBlock <;> simp), h.2.step h'⟩
theorem OwnI.start (w : World) : OwnI w.heap.size w (.slice (some ⟨w.heap.size, 0, none⟩) 0 0) [] (w.alloc (.cells #[] 3)) :=
  ⟨World.ownsRowF_of (World.ownsRow_made w #[] 0 (Nat.le_refl _) (Nat.zero_le _) rfl), (Ok.start w).alloc⟩




theorem ownF_ne {w : World} {B n size : Nat} {e : TypeId} {v : Value} {xs : List Value} (h : w.ownsRowF B e size v (n + 1) xs) : v ≠ .slice none 0 0 := by
  intro e
  rcases h.2 with ⟨_, h2⟩ | ⟨g, cap, cur, fz, hv, _⟩
  · omega
  · rw [e] at hv; cases hv
set_option maxHeartbeats 2000000 in
theorem rrunes_own (s : ByteArray) (w : World) (hs : s.size ≤ 1000000) (hv : faultL s.data.toList < 0) :
    Calls Tryz.prog 20 #[.string s] w fun e w' => ∃ v, e = .returned v ∧ (∃ B, w'.ownsRowF B 3 1 v (runesL s.data.toList).length (ivs .i64 (runesL s.data.toList)) ∧ v ≠ .slice none 0 0) ∧ Below w.heap.size w w' := by
  obtain ⟨i0, hi, hz0, hz1, hz2⟩ := info_parts Tryz.info_i64
  have HS : Hid (s.size ≤ maxLen) := by show _ ≤ _; unfold maxLen; omega
  have hv' : faultL s.data.toList = -1 := by unfold faultL at hv ⊢; exact faultF_neg _ _ _ hv
  have HV : Hid (faultL s.data.toList = -1) := hv'
  clear hv hv'
  go_enter Tryz.func20, Tryz.ntmps20
  go_wp2
  go_loopw [3, 4] (fun v i wr => ∃ (k fuel : Nat) (zs : List Int), i = .int .i64 k ∧ OwnI w.heap.size w v zs wr ∧ k ≤ s.size ∧ zs.length ≤ k ∧ s.size ≤ k + fuel ∧ Hid (zs ++ runesF s.data.toList fuel k = runesL s.data.toList) ∧ Hid (faultF s.data.toList fuel k = -1) ∧ Hid (v ≠ .slice none 0 0)) (fun _ i _ => s.size - (intOf i).toNat)
  case atStart => exact ⟨0, s.size, [], rfl, OwnI.start w, by omega, by simp, by omega, by show _ = _; unfold runesL; rw [len_size]; rfl, by show _ = _; rw [← HV.out]; unfold faultL; rw [len_size], fun e => (by cases e)⟩
  case round =>
    obtain ⟨k, fuel, zs, rfl, hO, hks, hzl, hfu, hR, hF, HNn⟩ := hrel
    by_cases hp : k < s.size
    · obtain ⟨f, rfl⟩ : ∃ f, fuel = f + 1 := ⟨fuel - 1, by omega⟩
      have hF2 := hF.out
      have hR2 := hR.out
      simp only [faultF, runesF] at hF2 hR2
      rw [if_pos (by rw [len_size]; exact hp)] at hF2 hR2
      have f1 := (fit_spec (s.data.toList.drop k)).1
      have f2 := fit_le _ (drop_ne s k hp)
      rw [List.length_drop, len_size] at f2
      have hd := fun w => rdec_any (s.extract k s.size) w (by rw [ext_size]; have := HS.out; omega)
      rw [ext_end] at hd
      unfold gotV decN at hd
      rw [if_neg (drop_ne s k hp)] at hd
      have ho : okL (s.data.toList.drop k) = true := by
        cases e : okL (s.data.toList.drop k) with
        | true => rfl
        | false => rw [e] at hF2; simp at hF2
      rw [if_pos ho] at hF2
      unfold decR at hd
      rw [if_pos ho, ho] at hd
      have HD : Hid (∀ w, Calls Tryz.prog 43 #[.string (s.extract k s.size)] w fun e w' => e = .returned (.agg #[.int .i64 (valL (s.data.toList.drop k)), .int .i64 (fit (s.data.toList.drop k)), .bool true]) ∧ Below w.heap.size w w') := hd
      have H2 : Hid (faultF s.data.toList f (k + fit (s.data.toList.drop k)) = -1) := hF2
      have H3 : Hid (zs ++ [(valL (s.data.toList.drop k) : Int)] ++ runesF s.data.toList f (k + fit (s.data.toList.drop k)) = runesL s.data.toList) := by show _ = _; rw [List.append_assoc]; exact hR2
      clear hd hF2 ho hF hR hR2
      generalize fit (s.data.toList.drop k) = m at *
      generalize valL (s.data.toList.drop k) = vv at *
      go_wp2_with (go_at_call 43; refine (HD.out _).mono ?_)
      rintro e w2 ⟨rfl, hb'⟩
      have hne0 := fun (e : some w2.heap.size = Value.ownBlock _) => Nat.lt_irrefl _ ((hO.step hb').1.lt _ e.symm).2
      have hne : Hid (some w2.heap.size ≠ Value.ownBlock _) := hne0
      clear hne0
      have hO2 : OwnI w.heap.size w _ zs (w2.alloc (.cells #[.int .i64 vv, .int .i64 m, .bool true] 82)) := (hO.step hb').step ((Below.refl _ _).alloc (Nat.le_refl _) _)
      have HO : Hid (OwnI w.heap.size w _ zs (w2.alloc (.cells #[.int .i64 vv, .int .i64 m, .bool true] 82))) := hO2
      have hsz : Hid (w.heap.size ≤ (w2.alloc (.cells #[.int .i64 vv, .int .i64 m, .bool true] 82)).heap.size) := hO2.2.2
      clear hO hb' hO2
      go_wp2_with (first | (at_builtin; refine append_one rfl (.tmp 15) (.tmp 18) 28 rfl w.heap.size 3 i0 (.int .i64 0) 8 Tryz.underlying28 hi hz0 hz1 hz2 rfl _ zs.length (ivs .i64 zs) rfl _ _ rfl HO.out.1 hsz.out (by show Value.slice (some ⟨w2.heap.size + 1, 0, none⟩) 1 1 = _; simp) (by omega) (by unfold maxLen; omega) ?_; intro v' w1 ho1 hg1; have hc1 := hg1.cell (a := ⟨w2.heap.size, 1, none⟩) (v := .int .i64 m) (by simp) hne.out))
      go_roundw
      case rel => exact ⟨k + m, f, zs ++ [(vv : Int)], by go_num, HO.out.put ho1 hg1, by omega, by simp; omega, by omega, H3, H2, ownF_ne ho1⟩
      case measure => simp [intOf]; omega
    · have H3 : Hid (zs = runesL s.data.toList) := by
        show _ = _; rw [← hR.out, runesF_end _ _ _ (by rw [len_size]; exact hp), List.append_nil]
      have HO : Hid (OwnI w.heap.size w _ zs wr) := hO
      clear hR hF hO
      go_wp2_with fail
      go_ret
      exact ⟨_, rfl, ⟨_, by rw [← H3.out]; exact HO.out.1, HNn.out⟩, HO.out.2.1⟩
theorem rrunes_any (s : ByteArray) (w : World) (hs : s.size ≤ 1000000) (hv : faultL s.data.toList < 0) :
    Calls Tryz.prog 20 #[.string s] w fun e w' => ∃ v, e = .returned v ∧ Sl .i64 w' v (runesL s.data.toList) ∧ Below w.heap.size w w' :=
  (rrunes_own s w hs hv).mono (fun _ _ ⟨v, a, ⟨_, b, _⟩, c⟩ => ⟨v, a, Sl.of_own b, c⟩)

set_option maxHeartbeats 2000000 in
theorem rtext_cons (b off cap : Nat) (zs : List Int) (w : World) (hb : b < w.heap.size) (hc : ∀ j (h : j < zs.length), w.cell? ⟨b, off + j, none⟩ = some (.int .i64 zs[j])) (hn : zs.length ≤ 1000000) :
    Calls Tryz.prog 19 #[.slice (some ⟨b, off, none⟩) zs.length cap] w fun e w' => e = .returned (.string ⟨(textL zs).toArray⟩) ∧ Below w.heap.size w w' := by
  have HC : Hid (∀ j (h : j < zs.length), w.cell? ⟨b, off + j, none⟩ = some (.int .i64 zs[j])) := hc
  clear hc
  go_enter Tryz.func19, Tryz.ntmps19
  go_wp2
  go_loopw [3, 4] (fun o i wr => ∃ (k : Nat) (out : ByteArray), k ≤ zs.length ∧ i = .int .i64 k ∧ o = .string out ∧ Ok w.heap.size w wr ∧ out.size ≤ 4 * k ∧ Hid (out.data.toList = textL (zs.take k))) (fun _ i _ => zs.length - (intOf i).toNat)
  case atStart => exact ⟨0, ⟨#[]⟩, by omega, rfl, rfl, Ok.start w, by decide, rfl⟩
  case round =>
    obtain ⟨k, out, hk, rfl, rfl, hok, hos, hT⟩ := hrel
    by_cases hlt : k < zs.length
    · have hcell : wr.cell? ⟨b, off + k, none⟩ = some (.int .i64 zs[k]) := by rw [hok.1.cell (p := ⟨b, off + k, none⟩) hb]; exact HC.out k hlt
      have HT : Hid ((out ++ encS zs[k]).data.toList = textL (zs.take (k + 1))) := by show _ = _; rw [app_list, take_snocI zs k hlt, textL_snoc, hT.out]
      have h4 := encS_le zs[k]
      have HSZ : Hid ((out ++ encS zs[k]).size ≤ 4 * (k + 1)) := by show _ ≤ _; rw [app_size]; omega
      clear hT
      go_wp2_with (first | (go_at_call 44; refine (renc_any _ _).mono ?_; rintro e w' ⟨rfl, hb'⟩; replace hok := hok.step hb'; clear hb'))
      go_roundw
      case rel => exact ⟨k + 1, _, by omega, by go_num, rfl, hok, HSZ.out, HT⟩
      case measure => simp [intOf]; omega
    · have e1 : zs.take k = zs := List.take_of_length_le (by omega)
      rw [e1] at hT
      clear e1
      go_wp2_with fail
      go_ret
      exact ⟨ret_string (by rw [← hT.out]), hok.1⟩

theorem rtext_nil (a : Option Addr) (cap : Nat) (w : World) :
    Calls Tryz.prog 19 #[.slice a 0 cap] w fun e w' => e = .returned (.string ⟨(textL []).toArray⟩) ∧ Below w.heap.size w w' := by
  go_enter Tryz.func19, Tryz.ntmps19
  go_wp2
  go_loop [3, 4] (fun o i => i = .int .i64 0 ∧ o = .string ⟨#[]⟩) (fun _ _ => 0)
  case atStart => exact ⟨rfl, rfl⟩
  case round =>
    obtain ⟨rfl, rfl⟩ := hrel
    go_wp2_with fail
    go_ret
    exact ⟨rfl, Below.refl _ _⟩

theorem rtext_any (v : Value) (zs : List Int) (w : World) (h : Sl .i64 w v zs) (hn : zs.length ≤ 1000000) :
    Calls Tryz.prog 19 #[v] w fun e w' => e = .returned (.string ⟨(textL zs).toArray⟩) ∧ Below w.heap.size w w' := by
  rcases h with ⟨rfl, a, cap, rfl⟩ | ⟨b, off, cap, rfl, hb, hc⟩
  · exact rtext_nil a cap w
  · exact rtext_cons b off cap zs w hb hc hn
end Go.Proofs.YtclcmkklonnalaaGreat.Ut

namespace Go.Proofs.YtclcmkklonnalaaGreat.Ut
open Go.RowKit

theorem Sl.nil {k : IntKind} {w : World} {v : Value} (h : Sl k w v []) : ∃ a cap, v = .slice a 0 cap := by
  rcases h with ⟨_, h⟩ | ⟨b, off, cap, h, _⟩
  · exact h
  · exact ⟨_, _, h⟩

theorem Ok.drewN {B : Nat} {W0 w : World} (h : Ok B W0 w) (n : Nat) : Ok B W0 (w.drewN n) := ⟨⟨h.1.os, h.1.tape, h.1.output, h.1.size, h.1.block⟩, h.2⟩

theorem rsame_nil (a a' : Option Addr) (cap cap' : Nat) (w : World) :
    Calls Tryz.prog 8 #[.slice a 0 cap, .slice a' 0 cap'] w fun e w' => e = .returned (.bool true) ∧ Below w.heap.size w w' := by
  go_enter Tryz.func8, Tryz.ntmps8
  go_wp2
  go_loop [5] (fun i => i = .int .i64 0) (fun _ => 0)
  case atStart => rfl
  case round =>
    subst hrel
    go_wp2_with fail
    go_ret
    exact ⟨rfl, Below.refl _ _⟩

set_option maxHeartbeats 2000000 in
theorem rsame_cons (b off cap b' off' cap' n : Nat) (zs : List Int) (w : World) (hl : zs.length = n) (hb : b < w.heap.size) (hb' : b' < w.heap.size) (hn : n ≤ 1000000) (hc : ∀ j (h : j < zs.length), w.cell? ⟨b, off + j, none⟩ = some (.int .i64 zs[j])) (hc' : ∀ j (h : j < zs.length), w.cell? ⟨b', off' + j, none⟩ = some (.int .i64 zs[j])) :
    Calls Tryz.prog 8 #[.slice (some ⟨b, off, none⟩) n cap, .slice (some ⟨b', off', none⟩) n cap'] w fun e w' => e = .returned (.bool true) ∧ Below w.heap.size w w' := by
  have HC : Hid (∀ j (h : j < zs.length), w.cell? ⟨b, off + j, none⟩ = some (.int .i64 zs[j])) := hc
  have HC' : Hid (∀ j (h : j < zs.length), w.cell? ⟨b', off' + j, none⟩ = some (.int .i64 zs[j])) := hc'
  have HL : Hid (zs.length = n) := hl
  clear hc hc' hl
  go_enter Tryz.func8, Tryz.ntmps8
  go_wp2
  go_loopw [5] (fun i wr => ∃ k : Nat, k ≤ n ∧ i = .int .i64 k ∧ Ok w.heap.size w wr) (fun i _ => n - (intOf i).toNat)
  case atStart => exact ⟨0, by omega, rfl, Ok.start w⟩
  case round =>
    obtain ⟨k, hk, rfl, hok⟩ := hrel
    by_cases hlt : k < n
    · have h1 : wr.cell? ⟨b, off + k, none⟩ = some (.int .i64 (zs.getD k 0)) := by
        rw [hok.1.cell (p := ⟨b, off + k, none⟩) hb, HC.out k (by rw [HL.out]; exact hlt)]
        rw [List.getD_eq_getElem?_getD, List.getElem?_eq_getElem (by rw [HL.out]; exact hlt)]; rfl
      have h2 : wr.cell? ⟨b', off' + k, none⟩ = some (.int .i64 (zs.getD k 0)) := by
        rw [hok.1.cell (p := ⟨b', off' + k, none⟩) hb', HC'.out k (by rw [HL.out]; exact hlt)]
        rw [List.getD_eq_getElem?_getD, List.getElem?_eq_getElem (by rw [HL.out]; exact hlt)]; rfl
      generalize zs.getD k 0 = z at *
      have hlt' : (k : Int) < (n : Int) := by omega
      go_wp2_with fail
      go_quiet (fail)
      go_wp2
      go_roundw
      case rel => exact ⟨k + 1, by omega, by go_num, Ok.drewN hok nq⟩
      case measure => simp [intOf]; omega
    · go_wp2_with fail
      go_ret
      exact ⟨rfl, hok.1⟩

theorem rsame_any (v v' : Value) (zs : List Int) (w : World) (h : Sl .i64 w v zs) (h' : Sl .i64 w v' zs) (hn : zs.length ≤ 1000000) :
    Calls Tryz.prog 8 #[v, v'] w fun e w' => e = .returned (.bool true) ∧ Below w.heap.size w w' := by
  by_cases hz : zs = []
  · subst hz
    obtain ⟨a, cap, rfl⟩ := h.nil
    obtain ⟨a', cap', rfl⟩ := h'.nil
    exact rsame_nil a a' cap cap' w
  · rcases h with ⟨e, _⟩ | ⟨b, off, cap, rfl, hb, hc⟩
    · exact absurd e hz
    · rcases h' with ⟨e, _⟩ | ⟨b', off', cap', rfl, hb', hc'⟩
      · exact absurd e hz
      · exact rsame_cons b off cap b' off' cap' zs.length zs w rfl hb hb' hn hc hc'

theorem runesF_fuel (l : List UInt8) : ∀ f f' i, l.length ≤ i + f → l.length ≤ i + f' → runesF l f i = runesF l f' i
  | 0, f', i, h, _ => by rw [runesF_end l f' i (by omega)]; rfl
  | f + 1, 0, i, _, h' => by rw [runesF_end l (f + 1) i (by omega)]; rfl
  | f + 1, f' + 1, i, h, h' => by
    simp only [runesF]
    by_cases hi : i < l.length
    · have f1 := (fit_spec (l.drop i)).1
      rw [if_pos hi, if_pos hi, runesF_fuel l f f' (i + fit (l.drop i)) (by omega) (by omega)]
    · rw [if_neg hi, if_neg hi]

theorem runesF_shift (a b : List UInt8) : ∀ f i, runesF (a ++ b) f (a.length + i) = runesF b f i
  | 0, i => by simp [runesF]
  | f + 1, i => by
    simp only [runesF]
    rw [drop_app, List.length_append]
    by_cases hi : i < b.length
    · rw [if_pos (by omega), if_pos hi, Nat.add_assoc, runesF_shift a b f]
    · rw [if_neg (by omega), if_neg hi]

theorem runes_cons (p t : List UInt8) (h : okL p = true) (hf : fit p = p.length) : runesL (p ++ t) = (valL p : Int) :: runesL t := by
  obtain ⟨o1, o2, o3⟩ := ok_append p t h
  have hl : 1 ≤ p.length := by rw [← hf]; exact (fit_spec p).1
  unfold runesL
  rw [List.length_append]
  obtain ⟨m, hm⟩ : ∃ m, p.length = m + 1 := ⟨p.length - 1, by omega⟩
  have e : p.length + t.length = (m + t.length) + 1 := by omega
  rw [e]
  simp only [runesF, List.drop_zero]
  rw [if_pos (by rw [List.length_append]; omega), o2, o3, hf, Nat.zero_add]
  have s := runesF_shift p t (m + t.length) 0
  rw [Nat.add_zero] at s
  rw [s, runesF_fuel t (m + t.length) t.length 0 (by omega) (by omega)]

theorem text_back (zs : List Int) (h : zs.all scB = true) : runesL (textL zs) = zs ∧ faultL (textL zs) < 0 := by
  induction zs with
  | nil => exact ⟨rfl, by decide⟩
  | cons z zs ih =>
    simp only [List.all_cons, Bool.and_eq_true] at h
    obtain ⟨i1, i2⟩ := ih h.2
    obtain ⟨o1, o2, o3⟩ := enc_ok z h.1 []
    rw [List.append_nil] at o1 o2 o3
    rw [← len_size] at o3
    have e : textL (z :: zs) = (encS z).data.toList ++ textL zs := by simp [textL]
    rw [e]
    refine ⟨by rw [runes_cons _ _ o1 o3, i1, o2], ?_⟩
    obtain ⟨p1, _⟩ := one_part _ o1 o3
    rw [(joins _ (textL zs) (by omega)).1, if_neg (by omega)]; exact i2

theorem runes_back (l : List UInt8) : ∀ f i, i ≤ l.length → l.length ≤ i + f → faultF l f i < 0 → textL (runesF l f i) = l.drop i ∧ (runesF l f i).all scB = true ∧ (runesF l f i).length ≤ l.length - i
  | 0, i, h1, h2, _ => by rw [List.drop_of_length_le (by omega)]; exact ⟨rfl, rfl, by simp [runesF]⟩
  | f + 1, i, h1, h2, h3 => by
    simp only [runesF, faultF] at h3 ⊢
    by_cases hi : i < l.length
    · rw [if_pos hi] at h3 ⊢
      by_cases ho : okL (l.drop i) = true
      · rw [if_pos ho] at h3
        have f1 := (fit_spec (l.drop i)).1
        have f2 := fit_le (l.drop i) ((okL_iff _).1 ho).1
        rw [List.length_drop] at f2
        obtain ⟨q1, q2, q3⟩ := runes_back l f (i + fit (l.drop i)) (by omega) (by omega) h3
        obtain ⟨a, b, _, _⟩ := ok_facts _ ho
        have e : (encS (valL (l.drop i))).data.toList = (l.drop i).take (fit (l.drop i)) := by unfold encS; rw [if_pos a]; exact b
        refine ⟨?_, by rw [List.all_cons, a, q2]; rfl, by rw [List.length_cons]; omega⟩
        have e2 : textL ((valL (l.drop i) : Int) :: runesF l f (i + fit (l.drop i))) = (encS (valL (l.drop i))).data.toList ++ textL (runesF l f (i + fit (l.drop i))) := by simp [textL]
        rw [e2, q1, e, ← List.drop_drop]
        exact List.take_append_drop _ _
      · rw [if_neg ho] at h3; omega
    · rw [if_neg hi, List.drop_of_length_le (by omega)]; exact ⟨rfl, rfl, by simp⟩

theorem runesL_back (l : List UInt8) (h : faultL l < 0) : textL (runesL l) = l ∧ (runesL l).all scB = true ∧ (runesL l).length ≤ l.length := by
  have := runes_back l l.length 0 (by omega) (by omega) h
  rw [List.drop_zero] at this
  exact ⟨this.1, this.2.1, by have := this.2.2; unfold runesL; omega⟩

theorem sc_range (zs : List Int) (h : zs.all scB = true) : ∀ z ∈ zs, -2147483648 ≤ z ∧ z ≤ 2147483647 := by
  intro z hz
  have := of_decide_eq_true (List.all_eq_true.1 h z hz)
  omega
end Go.Proofs.YtclcmkklonnalaaGreat.Ut
