import Derived.Test.YtamohliclidpgabUtf11
import Derived.Lib.BufSteps
namespace Go.Proofs.Ytamohliclidpgab
open Go.RowKit

/-- A slice that holds these numbers. -/
def Sl (k : IntKind) (w : World) (v : Value) (zs : List Int) : Prop :=
  (zs = [] ∧ ∃ a cap, v = .slice a 0 cap) ∨ ∃ b off cap, v = .slice (some ⟨b, off, none⟩) zs.length cap ∧ b < w.heap.size ∧ ∀ j (h : j < zs.length), w.cell? ⟨b, off + j, none⟩ = some (.int k zs[j])

theorem Sl.below {k : IntKind} {w w' : World} {v : Value} {zs : List Int} {B : Nat} (h : Sl k w v zs) (hb : Below B w w') (hB : w.heap.size ≤ B) : Sl k w' v zs := by
  rcases h with h | ⟨b, off, cap, e, hlt, hc⟩
  · exact .inl h
  · exact .inr ⟨b, off, cap, e, by have := hb.size; omega, fun j hj => by rw [hb.cell (p := ⟨b, off + j, none⟩) (by show b < B; omega)]; exact hc j hj⟩
theorem Sl.step {k : IntKind} {w w' : World} {v : Value} {zs : List Int} (h : Sl k w v zs) (hb : Below w.heap.size w w') : Sl k w' v zs := h.below hb (Nat.le_refl _)

def ivs (k : IntKind) (zs : List Int) : List Value := zs.map (Value.int k)
theorem ivs_snoc (k : IntKind) (zs : List Int) (z : Int) : ivs k (zs ++ [z]) = ivs k zs ++ [.int k z] := by simp [ivs]
theorem ivs_len (k : IntKind) (zs : List Int) : (ivs k zs).length = zs.length := by simp [ivs]

theorem Sl.of_own {k : IntKind} {w : World} {B : Nat} {e : TypeId} {v : Value} {zs : List Int} (h : w.ownsRowF B e 1 v zs.length (ivs k zs)) : Sl k w v zs := by
  rcases h.2 with ⟨rfl, hn⟩ | ⟨g, cap, cur, fz, hv, _, hg, _⟩
  · exact .inl ⟨List.eq_nil_of_length_eq_zero hn, none, 0, rfl⟩
  · refine .inr ⟨g, 0, cap, hv, (Array.getElem?_eq_some_iff.1 hg).1, fun j hj => ?_⟩
    have := h.cells (g := g) (by rw [hv]; rfl) j (.int k zs[j]) (by simp [ivs, hj])
    unfold Addr.add at this
    by_cases h0 : j = 0
    · subst h0; simpa using this
    · rw [if_neg h0] at this; simpa using this

/-- 'append(s, x)' of one value. -/
theorem append_one {P : Program} {ops : Array Oper} {rest : List Oper} {o : Oper} {a : Act} {Q : Exit → Act → World → Prop} (hgd : o.guard = none) (s x : Operand) (t : TypeId)
    (ho : o.op = .call { callee := .builtin .append, args := #[s, x], argTypes := #[t, t] })
    (B : Nat) (e : TypeId) (i : TypeInfo) (z : Value) (bytes : Nat) (ht : P.underlying t = some (.slice e)) (hi : P.info? e = some i) (hz : i.zero = some z) (hsize : i.size = 1) (hby : i.bytes = bytes) (hzs : z.cells.size = 1)
    (v : Value) (n : Nat) (xs : List Value) (hs : a.eval s = v) (w0 : World) (c : Value) (hc : c.oneCell' = true) (hown : w0.ownsRowF B e 1 v n xs) (hBw : B ≤ w0.heap.size)
    (hx : a.eval x = .slice (some ⟨w0.heap.size, 0, none⟩) 1 1) (hlen : (n + 1) * bytes ≤ 140737488355328) (hmax : n + 1 ≤ maxLen)
    (h : ∀ v' w', w'.ownsRowF B e 1 v' (n + 1) (xs ++ [c]) → (w0.alloc (.cells #[c] e)).grownBy w' v.ownBlock → wpList P ops Q rest (a.put o.dst v') w') : wpList P ops Q (o :: rest) a (w0.alloc (.cells #[c] e)) := by
  refine wpList_append_ownF _ hgd s x t ho B e i z 1 bytes ht hi hz hsize hby hzs (by decide) v n xs hs (hown.alloc _) ⟨w0.heap.size, 0, none⟩ 1 1 [c] hx rfl ?_ ?_ hmax hlen (by simp; omega) ?_
  · intro j u hj
    match j, hj with
    | 0, hj => simp at hj; subst hj; simp [Addr.add]
    | (j + 1), hj => simp at hj
  · intro u hu; simp at hu; subst hu; exact hc
  · intro v' w' ho' hg _
    exact h v' w' ho' hg

theorem Try.info_i32 : (Try.prog.info? 21).map (fun i => (i.zero, i.size, i.bytes)) = some (some (.int .i32 0), 1, 4) := by kernel_rfl
theorem Try.info_i64 : (Try.prog.info? 3).map (fun i => (i.zero, i.size, i.bytes)) = some (some (.int .i64 0), 1, 8) := by kernel_rfl

/-- The scalar values of a text, one behind the other. -/
def runesF (l : List UInt8) : Nat → Nat → List Int
  | 0, _ => []
  | f + 1, i => if i < l.length then (valL (l.drop i) : Int) :: runesF l f (i + fit (l.drop i)) else []
def runesL (l : List UInt8) : List Int := runesF l l.length 0
theorem runesF_end (l : List UInt8) (f i : Nat) (h : ¬ i < l.length) : runesF l f i = [] := by
  cases f with
  | zero => rfl
  | succ f => simp [runesF, h]

/-- An iterator, and a row of the call's own behind it. -/
def ItOwn (B : Nat) (W0 : World) (s : ByteArray) (pos : Nat) (v : Value) (zs : List Int) (w : World) : Prop :=
  It B W0 s pos w ∧ w.ownsRowF (B + 1) 21 1 v zs.length (ivs .i32 zs)
theorem ItOwn.lt {B : Nat} {W0 w : World} {s : ByteArray} {pos : Nat} {v : Value} {zs : List Int} (h : ItOwn B W0 s pos v zs w) : B < w.heap.size := (Array.getElem?_eq_some_iff.1 h.1.1).1
theorem ItOwn.next {B : Nat} {W0 w : World} {s : ByteArray} {pos : Nat} {v : Value} {zs : List Int} (h : ItOwn B W0 s pos v zs w) (p : Nat) : ItOwn B W0 s p v zs (w.iterAt B s p) := by
  refine ⟨h.1.next p, h.2.kept (row := some B) ⟨rfl, rfl, rfl, by rw [Lib.iterAt_size]; exact Nat.le_refl _, fun k _ hk => Lib.iterAt_other w B k s p (fun e => hk (by rw [e]))⟩ ?_⟩
  cases hv : v.ownBlock with
  | none => exact .inl rfl
  | some g => exact .inr (fun e => by have := (h.2.lt g hv).1; simp at e; omega)
theorem ItOwn.put {B : Nat} {W0 w w' : World} {s : ByteArray} {pos : Nat} {v v' : Value} {zs : List Int} {z : Int} {o : Obj} (h : ItOwn B W0 s pos v zs w) (h1 : w'.ownsRowF (B + 1) 21 1 v' (zs.length + 1) (ivs .i32 zs ++ [.int .i32 z])) (h2 : (w.alloc o).grownBy w' v.ownBlock) : ItOwn B W0 s pos v' (zs ++ [z]) w' := by
  have hlt := h.lt
  have hne : some B ≠ v.ownBlock := fun e => by have := (h.2.lt B e.symm).1; omega
  refine ⟨⟨?_, ?_⟩, ?_⟩
  · rw [h2.block B (by simp; omega) hne, Below.heap_alloc w o B hlt]; exact h.1.1
  · exact (h.1.2.alloc (by omega) o).grown h2 (by simp; omega) (fun k hk => by have := (h.2.lt k hk).1; omega)
  · rw [ivs_snoc, List.length_append]; exact h1

set_option maxHeartbeats 2000000 in
theorem runes_any (s : ByteArray) (w : World) (hs : s.size ≤ 1000000) :
    Calls Try.prog 18 #[.string s] w fun e w' => (0 ≤ faultL s.data.toList ∧ e = .returned (.tuple #[.slice none 0 0, .bool false]) ∨ faultL s.data.toList < 0 ∧ ∃ v, e = .returned (.tuple #[v, .bool true]) ∧ Sl .i32 w' v (runesL s.data.toList)) ∧ Below w.heap.size w w' := by
  obtain ⟨i0, hi, hz0, hz1, hz2⟩ := info_parts Try.info_i32
  go_enter Try.func18, Try.ntmps18
  go_wp2
  go_loopw [4] (fun v wr => ∃ (pos fuel : Nat) (zs : List Int), ItOwn w.heap.size w s pos v zs wr ∧ pos ≤ s.size ∧ zs.length ≤ pos ∧ s.size ≤ pos + fuel ∧ Hid (zs ++ runesF s.data.toList fuel pos = runesL s.data.toList) ∧ Hid (faultF s.data.toList fuel pos = faultL s.data.toList)) (fun _ wr => s.size - wr.iterPos w.heap.size)
  case atStart => exact ⟨0, s.size, [], ⟨It.start w s, World.ownsRowF_nil _ _ _ _⟩, by omega, by simp, by omega, by show _ = _; unfold runesL; rw [len_size]; rfl, by show _ = _; unfold faultL; rw [len_size]⟩
  case round =>
    obtain ⟨pos, fuel, zs, hit, hps, hzl, hfu, hR, hF⟩ := hrel
    by_cases hp : pos < s.size
    · have hnx : ∀ ty, (Instr.next (.pointer (some ⟨w.heap.size, 0, none⟩)) true ty).run Try.prog wr = _ := fun ty => Lib.run_next_any_at wr w.heap.size s pos ty hit.1.1 hp
      have hd := decode_eq s pos hp
      have hfa := fun w => fault_at s pos w hp
      have hit2 := hit.next (pos + (Utf8.decode s pos).2)
      have HM : Hid (s.size - wr.iterPos w.heap.size = s.size - pos) := by show _ = _; simp [World.iterPos, hit.1.1]
      obtain ⟨f, rfl⟩ : ∃ f, fuel = f + 1 := ⟨fuel - 1, by omega⟩
      have hF2 := hF.out
      have hR2 := hR.out
      simp only [faultF, runesF] at hF2 hR2
      rw [if_pos (by rw [len_size]; exact hp)] at hF2 hR2
      have f1 := (fit_spec (s.data.toList.drop pos)).1
      have f2 := fit_le _ (drop_ne s pos hp)
      rw [List.length_drop, len_size] at f2
      by_cases ho : okL (s.data.toList.drop pos) = true
      · rw [if_pos ho] at hd hF2
        rw [hd] at hnx hit2
        rw [hd, ho] at hfa
        have HF : Hid (∀ w, Calls Try.prog 27 #[.string s, .int .i64 pos, .int .i32 (valL (s.data.toList.drop pos))] w fun e w' => e = .returned (.bool false) ∧ w' = w) := hfa
        have H2 : Hid (faultF s.data.toList f (pos + fit (s.data.toList.drop pos)) = faultL s.data.toList) := hF2
        have H3 : Hid (zs ++ [(valL (s.data.toList.drop pos) : Int)] ++ runesF s.data.toList f (pos + fit (s.data.toList.drop pos)) = runesL s.data.toList) := by show _ = _; rw [List.append_assoc]; exact hR2
        clear hfa hd ho hF2 hF hR hR2 hit
        generalize fit (s.data.toList.drop pos) = m at *
        generalize valL (s.data.toList.drop pos) = vv at *
        have HI : Hid (ItOwn w.heap.size w s (pos + m) _ zs (wr.iterAt w.heap.size s (pos + m))) := hit2
        have hlt : Hid (w.heap.size + 1 ≤ (wr.iterAt w.heap.size s (pos + m)).heap.size) := hit2.lt
        clear hit2
        go_wp2_with (first | (go_at_call 27; refine (HF.out _).mono ?_; rintro e w' ⟨rfl, rfl⟩) | (at_builtin; refine append_one rfl (.tmp 17) (.tmp 19) 35 rfl (w.heap.size + 1) 21 i0 (.int .i32 0) 4 Try.underlying35 hi hz0 hz1 hz2 rfl _ zs.length (ivs .i32 zs) rfl _ _ rfl HI.out.2 hlt.out rfl (by omega) (by unfold maxLen; omega) ?_; intro v' w1 ho1 hg1))
        go_roundw
        case rel => exact ⟨pos + m, f, zs ++ [(vv : Int)], HI.out.put ho1 hg1, by omega, by simp; omega, by omega, H3, H2⟩
        case measure => rw [HM.out]; simp only [World.iterPos, (HI.out.put ho1 hg1).1.1]; omega
      · have ho' : okL (s.data.toList.drop pos) = false := by simpa using ho
        rw [if_neg ho] at hd hF2
        rw [hd] at hnx hit2
        rw [hd, ho'] at hfa
        have HF : Hid (∀ w, Calls Try.prog 27 #[.string s, .int .i64 pos, .int .i32 65533] w fun e w' => e = .returned (.bool true) ∧ w' = w) := hfa
        have H2 : Hid ((pos : Int) = faultL s.data.toList) := hF2
        have HI : Hid (ItOwn w.heap.size w s (pos + 1) _ zs (wr.iterAt w.heap.size s (pos + 1))) := hit2
        clear hfa hd ho ho' hF2 hF hit2 hit f1 f2 hR hR2
        go_wp2_with (first | (go_at_call 27; refine (HF.out _).mono ?_; rintro e w' ⟨rfl, rfl⟩))
        go_ret2
        exact ⟨.inl ⟨by rw [← H2.out]; omega, rfl⟩, HI.out.1.2⟩
    · have hnx : ∀ ty, (Instr.next (.pointer (some ⟨w.heap.size, 0, none⟩)) true ty).run Try.prog wr = _ := fun ty => Lib.run_next_end_at wr w.heap.size s pos ty hit.1.1 hp
      have H2 : Hid (faultL s.data.toList = -1) := by
        show _ = _; rw [← hF.out, faultF_end _ _ _ (by rw [len_size]; exact hp)]
      have H3 : Hid (zs = runesL s.data.toList) := by
        show _ = _; rw [← hR.out, runesF_end _ _ _ (by rw [len_size]; exact hp), List.append_nil]
      have HI : Hid (ItOwn w.heap.size w s pos _ zs wr) := hit
      clear hF hit hR
      go_wp2_with fail
      go_ret2
      exact ⟨.inr ⟨by rw [H2.out]; omega, _, rfl, by rw [← H3.out]; exact Sl.of_own HI.out.2⟩, HI.out.1.2⟩

/-- The bytes of scalar values; of other numbers none. -/
def textL (zs : List Int) : List UInt8 := zs.flatMap fun r => (encS r).data.toList
theorem textL_snoc (zs : List Int) (z : Int) : textL (zs ++ [z]) = textL zs ++ (encS z).data.toList := by simp [textL]
theorem encS_le (r : Int) : (encS r).size ≤ 4 := by
  by_cases h : scB r = true
  · rw [← (enc_ok r h []).2.2]; exact (fit_spec _).2.1
  · unfold encS; rw [if_neg h]; decide
theorem textL_len (zs : List Int) : (textL zs).length ≤ 4 * zs.length := by
  induction zs with
  | nil => simp [textL]
  | cons z zs ih =>
    have h := encS_le z
    rw [← len_size] at h
    simp only [textL, List.flatMap_cons, List.length_append, List.length_cons] at ih ⊢
    omega

theorem take_snocI (zs : List Int) (k : Nat) (h : k < zs.length) : zs.take (k + 1) = zs.take k ++ [zs[k]] := List.take_succ_eq_append_getElem h

/-- A builder alone. -/
def BO (B : Nat) (W0 : World) (acc : List UInt8) (w : World) : Prop :=
  Lib.IsBuilderF 57 5 B B (Lib.byteCells acc) w ∧ Below B W0 w ∧ B < w.heap.size

theorem wro_any (B : Nat) (W0 w : World) (acc : List UInt8) (r : Int) (hr : scB r = true) (h : BO B W0 acc w) (hlen : acc.length + 4 ≤ 140737488355328) :
    Calls Try.prog 32 #[.pointer (some ⟨B, 0, none⟩), .int .i32 r] w fun e w' => e = .returned (.tuple #[.int .i64 (Lib.runeCells r).length, .nilIface]) ∧ BO B W0 (acc ++ (encS r).data.toList) w' := by
  have hb : (0 ≤ r ∧ r < 55296) ∨ (57343 < r ∧ r ≤ 1114111) := of_decide_eq_true hr
  refine (wrune_any B B (Lib.byteCells acc) r (by omega) (by omega) w h.1 (by rw [Lib.byteCells_length]; omega) (by have := h.2.2; omega)).mono ?_
  rintro e w' ⟨rfl, h1, h2, h3⟩
  rw [← Lib.byteCells_encodeRune, encodeRune_eq r hr] at h1
  exact ⟨rfl, .inr (by rw [Lib.byteCells_append]; exact h1), h.2.1.trans h2, by have := h2.size; have := h.2.2; omega⟩

theorem BO.start (w : World) : BO w.heap.size w [] (w.alloc (.cells #[.pointer none, .slice none 0 0] 57)) :=
  ⟨Lib.IsBuilderF.of (Lib.fresh_isBuilder 57 5 w), (Below.refl _ w).alloc (Nat.le_refl _) _, by simp⟩

/-- What Text tells. -/
def textV (zs : List Int) : Value := if zs.all scB then .string ⟨(textL zs).toArray⟩ else .string ⟨#[]⟩

set_option maxHeartbeats 2000000 in
theorem text_cons (b off cap : Nat) (zs : List Int) (w : World) (hb : b < w.heap.size) (hc : ∀ j (h : j < zs.length), w.cell? ⟨b, off + j, none⟩ = some (.int .i32 zs[j])) (hn : zs.length ≤ 1000000) :
    Calls Try.prog 19 #[.slice (some ⟨b, off, none⟩) zs.length cap] w fun e w' => e = .returned (.tuple #[textV zs, .bool (zs.all scB)]) ∧ Below w.heap.size w w' := by
  have HC : Hid (∀ j (h : j < zs.length), w.cell? ⟨b, off + j, none⟩ = some (.int .i32 zs[j])) := hc
  clear hc
  go_enter Try.func19, Try.ntmps19
  go_wp2
  go_loopw [9] (fun i wr => ∃ k : Nat, k ≤ zs.length ∧ i = .int .i64 k ∧ BO w.heap.size w (textL (zs.take k)) wr ∧ Hid ((zs.take k).all scB = true)) (fun i _ => zs.length - (intOf i).toNat)
  case atStart => exact ⟨0, by omega, rfl, BO.start w, rfl⟩
  case round =>
    obtain ⟨k, hk, rfl, hB, hA⟩ := hrel
    by_cases hlt : k < zs.length
    · have hcell : wr.cell? ⟨b, off + k, none⟩ = some (.int .i32 zs[k]) := by rw [hB.2.1.cell (p := ⟨b, off + k, none⟩) hb]; exact HC.out k hlt
      have HT := take_snocI zs k hlt
      have HTL : Hid (textL (zs.take (k + 1)) = textL (zs.take k) ++ (encS zs[k]).data.toList) := by show _ = _; rw [HT, textL_snoc]
      have hlen := textL_len (zs.take k)
      rw [List.length_take] at hlen
      by_cases hsc : scB zs[k] = true
      · have HA : Hid ((zs.take (k + 1)).all scB = true) := by show _ = _; rw [HT, List.all_append, hA.out]; simp [hsc]
        have HW : Hid (∀ w', BO w.heap.size w (textL (zs.take k)) w' → Calls Try.prog 32 #[.pointer (some ⟨w.heap.size, 0, none⟩), .int .i32 zs[k]] w' fun e w'' => e = .returned (.tuple #[.int .i64 (Lib.runeCells zs[k]).length, .nilIface]) ∧ BO w.heap.size w (textL (zs.take k) ++ (encS zs[k]).data.toList) w'') := fun w' h => wro_any w.heap.size w w' _ _ hsc h (by omega)
        have HBB : Hid (BO w.heap.size w (textL (zs.take k)) wr) := hB
        clear HT hA hB
        go_wp2_with (first | (go_at_call 15; refine (sc_any _ _).mono ?_; rintro e w' ⟨rfl, hw⟩) | (go_at_call 32; refine (HW.out _ HBB.out).mono ?_; rintro e w' ⟨rfl, hbo⟩))
        go_roundw
        case rel => exact ⟨k + 1, by omega, by go_num, by rw [HTL.out]; exact hbo, HA⟩
        case measure => simp [intOf]; omega
      · have hsc' : scB zs[k] = false := by simpa using hsc
        have hall : zs.all scB = false := by
          rw [← Bool.not_eq_true]; intro h
          exact hsc (List.all_eq_true.1 h _ (List.getElem_mem hlt))
        have HV : Hid (textV zs = .string ⟨#[]⟩) := by show _ = _; unfold textV; rw [hall]; rfl
        have HL : Hid (zs.all scB = false) := hall
        have hbel := hB.2.1
        clear HT hA hsc hall hB
        go_wp2_with (first | (go_at_call 15; refine (sc_any _ _).mono ?_; rintro e w' ⟨rfl, rfl⟩))
        go_ret2
        exact ⟨ret_two HV.out.symm (by rw [HL.out]; rfl), hbel⟩
    · have e1 : zs.take k = zs := List.take_of_length_le (by omega)
      rw [e1] at hB hA
      have HV : Hid (textV zs = .string ⟨(textL zs).toArray⟩) := by show _ = _; unfold textV; rw [hA.out]; rfl
      have hbel := hB.2.1
      have hsz : w.heap.size ≤ wr.heap.size := by have := hB.2.2; omega
      clear e1
      go_wp2_with (first | (go_at_call 33; refine (bstr_any w.heap.size w.heap.size (textL zs) _ hB.1 hsz).mono ?_; rintro e w' ⟨rfl, _, b1, _⟩))
      go_ret2
      exact ⟨ret_two HV.out.symm (by rw [hA.out]; rfl), hbel.trans b1⟩

theorem text_nil (a : Option Addr) (cap : Nat) (w : World) :
    Calls Try.prog 19 #[.slice a 0 cap] w fun e w' => e = .returned (.tuple #[textV [], .bool true]) ∧ Below w.heap.size w w' := by
  have hB := BO.start w
  go_enter Try.func19, Try.ntmps19
  go_wp2
  go_loopw [9] (fun i wr => i = .int .i64 0 ∧ wr = w.alloc (.cells #[.pointer none, .slice none 0 0] 57)) (fun _ _ => 0)
  case atStart => exact ⟨rfl, rfl⟩
  case round =>
    obtain ⟨rfl, rfl⟩ := hrel
    go_wp2_with (first | (go_at_call 33; refine (bstr_any w.heap.size w.heap.size [] _ hB.1 (by simp)).mono ?_; rintro e w' ⟨rfl, _, b1, _⟩))
    go_ret2
    exact ⟨rfl, hB.2.1.trans b1⟩

theorem text_any (v : Value) (zs : List Int) (w : World) (h : Sl .i32 w v zs) (hn : zs.length ≤ 1000000) :
    Calls Try.prog 19 #[v] w fun e w' => e = .returned (.tuple #[textV zs, .bool (zs.all scB)]) ∧ Below w.heap.size w w' := by
  rcases h with ⟨rfl, a, cap, rfl⟩ | ⟨b, off, cap, rfl, hb, hc⟩
  · exact text_nil a cap w
  · exact text_cons b off cap zs w hb hc hn
end Go.Proofs.Ytamohliclidpgab
