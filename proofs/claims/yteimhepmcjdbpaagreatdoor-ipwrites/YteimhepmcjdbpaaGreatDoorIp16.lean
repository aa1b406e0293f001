import Derived.Test.YteimhepmcjdbpaaGreatDoorIp15
import Derived.Deep.AppendLies
namespace Go.Proofs.YteimhepmcjdbpaaGreatDoor
open Go.RowKit
namespace Ip

section
variable {W : World} {B n : Nat} {e : TypeId} {v : Value} {xs : List Value}
theorem own_is (h : W.ownsRow B e 1 v (n + 1) xs) : ∃ g cap, v = .slice (some ⟨g, 0, none⟩) (n + 1) cap ∧ B ≤ g ∧ g < W.heap.size := by
  rcases h.2 with ⟨_, hn⟩ | ⟨g', cap', cur, hv, hb, hgg, _⟩
  · exact absurd hn (by omega)
  · exact ⟨g', cap', hv, hb, (Array.getElem?_eq_some_iff.1 hgg).1⟩
theorem own_at {g cap : Nat} (h : W.ownsRow B e 1 (.slice (some ⟨g, 0, none⟩) n cap) n xs) (j : Nat) (u : Value) (hj : xs[j]? = some u) : W.cell? ⟨g, j, none⟩ = some u ∧ W.frozen? ⟨g, j, none⟩ = false := by
  rcases h.2 with ⟨hn, _⟩ | ⟨g', cap', cur, hv, hb, hgg, h1, h2, h3, h4⟩
  · cases hn
  · injection hv with e1 _ e2
    injection e1 with e1
    injection e1 with e1 _ _
    subst e1 e2
    refine ⟨?_, by unfold World.frozen?; rw [hgg]; simp⟩
    rw [cell_of_row _ _ j cur e (0, 0) hgg]
    rw [← h4] at hj
    have hlt : j < n * 1 := by
      have := (List.getElem?_eq_some_iff.1 hj).1
      rw [List.length_take] at this; omega
    rw [List.getElem?_take_of_lt hlt, Array.getElem?_toList] at hj
    exact hj
theorem own_put {g cap i : Nat} {y : Value} (h : W.ownsRow B e 1 (.slice (some ⟨g, 0, none⟩) n cap) n xs) : (W.setCell ⟨g, i, none⟩ y).ownsRow B e 1 (.slice (some ⟨g, 0, none⟩) n cap) n (xs.set i y) := by
  refine ⟨by rw [List.length_set]; exact h.1, ?_⟩
  rcases h.2 with ⟨hn, _⟩ | ⟨g', cap', cur, hv, hb, hgg, h1, h2, h3, h4⟩
  · cases hn
  · injection hv with e1 _ e2
    injection e1 with e1
    injection e1 with e1 _ _
    subst e1 e2
    refine .inr ⟨g, cap, cur.setIfInBounds i y, rfl, hb, ?_, h1, h2, by rw [Array.size_setIfInBounds]; exact h3, ?_⟩
    · show (W.heap.modify g _)[g]? = _
      rw [Array.getElem?_modify]
      simp [hgg]
    · rw [Array.toList_setIfInBounds, List.take_set, h4]
end

theorem info_str : (Tryz.prog.info? 9).map (fun i => (i.zero, i.size, i.bytes)) = some (some (.string ⟨#[]⟩), 1, 16) := by kernel_rfl
theorem info_parts {i : Option TypeInfo} {z : Option Value} {s b : Nat} (h : i.map (fun i => (i.zero, i.size, i.bytes)) = some (z, s, b)) : ∃ j, i = some j ∧ j.zero = z ∧ j.size = s ∧ j.bytes = b := by
  cases i with
  | none => simp at h
  | some j => simp at h; exact ⟨j, rfl, h.1, h.2.1, h.2.2⟩
theorem heap_new (w : World) (o : Obj) : (w.alloc o).heap[w.heap.size]? = some o := heap_alloc_new w o

/-- append(l, s): one text onto a row of the call's own. -/
theorem appT {ops : Array Oper} {rest : List Oper} {o : Oper} {a : Act} {Q : Exit → Act → World → Prop} (hgd : o.guard = none) (s x : Operand)
    (ho : o.op = .call { callee := .builtin .append, args := #[s, x], argTypes := #[52, 52] }) (W : World) (B : Nat) (v : Value) (us : List Value) (r : ByteArray) (hs : a.eval s = v) (N : Nat) (hN : W.heap.size = N) (hx : a.eval x = .slice (some ⟨N, 0, none⟩) 1 1)
    (hown : W.ownsRow B 9 1 v us.length us) (hn : us.length ≤ 1000000) (hB : B ≤ W.heap.size)
    (h : ∀ v' w', w'.ownsRow B 9 1 v' (us ++ [Value.string r]).length (us ++ [Value.string r]) → Below B W w' → wpList Tryz.prog ops Q rest (a.put o.dst v') w') :
    wpList Tryz.prog ops Q (o :: rest) a (W.alloc (.cells #[.string r] 9)) := by
  subst hN
  obtain ⟨i0, hi, hz0, hz1, hz2⟩ := info_parts info_str
  refine wpList_append_own_at _ hgd s x 52 ho B 9 i0 (.string ⟨#[]⟩) 1 16 Tryz.underlying52 hi hz0 hz1 hz2 rfl (by decide) v us.length us hs (hown.alloc _) ⟨W.heap.size, 0, none⟩ 1 1 [.string r] hx rfl
    (World.news_of_block (heap_new W _)) (fun u hu => by simp at hu; subst hu; rfl) (by unfold maxLen; omega) (by omega) (by simp; omega) (fun v' w' h1 h2 _ _ => h v' w' ?_ ?_)
  · rw [List.length_append]; exact h1
  · exact ((Below.refl _ _).alloc hB _).trans ((Below.refl B _).grown h2 (by simp; omega) (fun k e => (hown.lt k e).1))

/-- Texts as values. -/
def stV (L : List (List UInt8)) : List Value := L.map fun l => .string ⟨l.toArray⟩
theorem stV_len (L : List (List UInt8)) : (stV L).length = L.length := by simp [stV]
theorem stV_snoc (L : List (List UInt8)) (l : List UInt8) : stV (L ++ [l]) = stV L ++ [.string ⟨l.toArray⟩] := by simp [stV]
theorem stV_set (L : List (List UInt8)) (l m : List UInt8) : (stV (L ++ [l])).set L.length (.string ⟨m.toArray⟩) = stV (L ++ [m]) := by
  rw [stV_snoc, stV_snoc, List.set_append_right _ _ (by rw [stV_len]; exact Nat.le_refl _), stV_len, Nat.sub_self]; rfl
theorem stV_last (L : List (List UInt8)) (l : List UInt8) : (stV (L ++ [l]))[L.length]? = some (.string ⟨l.toArray⟩) := by
  rw [stV_snoc, List.getElem?_append_right (by rw [stV_len]; exact Nat.le_refl _), stV_len, Nat.sub_self]; rfl

theorem dropS (s : ByteArray) (k : Nat) (h : k < s.size) : s.data.toList.drop k = s[k] :: s.data.toList.drop (k + 1) := by
  rw [List.drop_eq_getElem_cons (by simpa using h)]; rfl
theorem extS (s : ByteArray) (k : Nat) (h : k < s.size) : (s.extract k (k + 1)).data.toList = [s[k]] := by
  rw [ext_list, dropS s k h]; simp
theorem sz_list (s : ByteArray) : s.size = s.data.toList.length := (len_size s).symm

/-- A text's parts, some of it read: what stands, and the part under way. -/
def paG (c : UInt8) (pre : List (List UInt8)) (cur l : List UInt8) : List (List UInt8) := pre ++ (cur ++ (paL c l).headD []) :: (paL c l).tail
theorem paG_start (c : UInt8) (l : List UInt8) : paG c [] [] l = paL c l := by
  unfold paG
  have := paL_ne c l
  match h : paL c l with
  | [] => exact absurd h this
  | _ :: _ => simp
theorem paG_end (c : UInt8) (pre : List (List UInt8)) (cur : List UInt8) : paG c pre cur [] = pre ++ [cur] := by simp [paG, paL]
theorem paG_cut (c : UInt8) (pre : List (List UInt8)) (cur l : List UInt8) (x : UInt8) (h : x = c) : paG c pre cur (x :: l) = paG c (pre ++ [cur]) [] l := by
  have := paL_ne c l
  unfold paG; rw [paL, if_pos h]
  match h : paL c l with
  | [] => exact absurd h this
  | _ :: _ => simp
theorem paG_more (c : UInt8) (pre : List (List UInt8)) (cur l : List UInt8) (x : UInt8) (h : ¬ x = c) : paG c pre cur (x :: l) = paG c pre (cur ++ [x]) l := by
  unfold paG; rw [paL, if_neg h]
  simp

/-- A row of texts, as it is read. -/
def Tx (w : World) (v : Value) (L : List (List UInt8)) : Prop := ∃ g cap, v = .slice (some ⟨g, 0, none⟩) L.length cap ∧ g < w.heap.size ∧ ∀ j (h : j < L.length), w.cell? ⟨g, j, none⟩ = some (.string ⟨L[j].toArray⟩)
theorem Tx.step {w w' : World} {v : Value} {L : List (List UInt8)} (h : Tx w v L) (hb : Below w.heap.size w w') : Tx w' v L := by
  obtain ⟨g, cap, e, hl, hc⟩ := h
  exact ⟨g, cap, e, Nat.lt_of_lt_of_le hl hb.size, fun j hj => (hb.cell (p := ⟨g, j, none⟩) hl).trans (hc j hj)⟩

set_option maxRecDepth 100000 in
set_option maxHeartbeats 4000000 in
theorem rparts_any (s : ByteArray) (c : UInt8) (ci : Int) (hc : ci = (c.toNat : Int)) (w : World) (hs : s.size ≤ 1000) :
    Calls Tryz.prog 22 #[.string s, .int .u8 ci] w fun e w' => (∃ v, e = .returned v ∧ Tx w' v (paL c s.data.toList) ∧ ∀ g, v.ownBlock = some g → w.heap.size ≤ g) ∧ Below w.heap.size w w' := by
  have HC := hid hc
  clear hc
  have H0 : Hid ((w.alloc (.cells #[.string ⟨#[]⟩] 9)).ownsRow w.heap.size 9 1 (.slice (some ⟨w.heap.size, 0, none⟩) 1 1) 1 (stV ([] ++ [[]]))) :=
    ⟨rfl, .inr ⟨w.heap.size, 1, #[.string ⟨#[]⟩], rfl, Nat.le_refl _, heap_alloc_new w _, Nat.le_refl _, by unfold maxLen; omega, rfl, rfl⟩⟩
  go_enter Tryz.func22, Tryz.ntmps22
  go_wp2
  go_loopw [5, 6] (fun o i wr => ∃ (k : Nat) (pre : List (List UInt8)) (cur : List UInt8) (g cap : Nat), o = .slice (some ⟨g, 0, none⟩) ((pre.length + 1 : Nat)) cap ∧ i = .int .i64 k ∧ k ≤ s.size ∧ Hid (pre.length ≤ k ∧ cur.length ≤ k) ∧ Hid (wr.ownsRow w.heap.size 9 1 (.slice (some ⟨g, 0, none⟩) (pre.length + 1) cap) (pre.length + 1) (stV (pre ++ [cur]))) ∧ Hid (Ok w.heap.size w wr) ∧ Hid (paL c s.data.toList = paG c pre cur (s.data.toList.drop k))) (fun _ i _ => s.size - (intOf i).toNat)
  case atStart => exact ⟨0, [], [], w.heap.size, 1, rfl, rfl, Nat.zero_le _, ⟨Nat.le_refl _, Nat.le_refl _⟩, H0, (Ok.start w).alloc, (paG_start c _).symm⟩
  case round =>
    obtain ⟨k, pre, cur, g, cap, rfl, rfl, hk, HS, HO, HK, HP⟩ := hrel
    by_cases hlt : k < s.size
    · by_cases hx : s[k] = c
      · have hq : ((s[k].toNat : Int) == ci) = true := by rw [hx, HC.out]; simp
        have HP2 : Hid (paL c s.data.toList = paG c (pre ++ [cur]) [] (s.data.toList.drop (k + 1))) := by
          show _ = _; rw [HP.out, dropS s k hlt, paG_cut _ _ _ _ _ hx]
        have hl : (stV (pre ++ [cur])).length ≤ 1000000 := by rw [stV_len, List.length_append]; have := HS.out; simp; omega
        have HO2 : Hid (wr.ownsRow w.heap.size 9 1 (.slice (some ⟨g, 0, none⟩) (pre.length + 1) cap) (stV (pre ++ [cur])).length (stV (pre ++ [cur]))) := by
          show _; rw [stV_len, List.length_append]; exact HO.out
        clear HP hx
        go_wp2_with (at_builtin; refine appT rfl (.tmp 19) (.tmp 20) rfl wr w.heap.size _ (stV (pre ++ [cur])) ⟨#[]⟩ (by rfl) wr.heap.size rfl (by rfl) HO2.out hl HK.out.2 (fun v' w' h1 h2 => ?_); have H1 := hid h1; have H2 := hid h2; clear h1 h2)
        go_roundw
        case rel =>
          have h1 := H1.out
          rw [← stV_snoc (pre ++ [cur]) [], stV_len, List.length_append] at h1
          have e1 : (pre ++ [cur]).length = pre.length + 1 := by simp
          rw [e1] at h1
          obtain ⟨g2, cap2, e2, hb2, hg2⟩ := own_is (n := pre.length + 1) h1
          subst e2
          exact ⟨k + 1, pre ++ [cur], [], g2, cap2, by rw [e1], by go_num, by omega, ⟨by have := HS.out; omega, Nat.zero_le _⟩, by rw [e1]; exact h1, ⟨HK.out.1.trans H2.out, Nat.le_trans HK.out.2 H2.out.size⟩, HP2⟩
        case measure => simp [intOf]; omega
      · have hq : ((s[k].toNat : Int) == ci) = false := by
          rw [beq_eq_false_iff_ne, HC.out]; intro e; exact hx (UInt8.toNat_inj.1 (Int.ofNat_inj.1 e))
        have HP2 : Hid (paL c s.data.toList = paG c pre (cur ++ [s[k]]) (s.data.toList.drop (k + 1))) := by
          show _ = _; rw [HP.out, dropS s k hlt, paG_more _ _ _ _ _ hx]
        obtain ⟨ck, zk⟩ := own_at HO.out pre.length _ (stV_last pre cur)
        obtain ⟨g', cap', eg, hgB, _⟩ := own_is HO.out
        cases eg
        have hcs : (⟨cur.toArray⟩ : ByteArray).size ≤ 1000 := by show cur.toArray.size ≤ _; have := HS.out; simp; omega
        have hpl : pre.length ≤ 1000 := by have := HS.out; omega
        have HA : Hid ((⟨cur.toArray⟩ : ByteArray) ++ s.extract k (k + 1) = ⟨(cur ++ [s[k]]).toArray⟩) := by
          show _ = _
          refine bytes_ext ?_
          rw [ByteArray.data_append, Array.toList_append, extS s k hlt]
        generalize (⟨cur.toArray⟩ : ByteArray) = cu at *
        clear HP hx
        go_wp2_with fail
        go_region
        go_wp2_with fail
        go_roundw
        case rel =>
          refine ⟨k + 1, pre, cur ++ [s[k]], g, cap, rfl, by go_num, by omega, ⟨by have := HS.out; omega, by have := HS.out; simp; omega⟩, ?_, ?_, HP2⟩
          · have h1 := own_put (i := pre.length) (y := .string (cu ++ s.extract k (k + 1))) HO.out
            rw [HA.out, stV_set] at h1
            rw [HA.out]
            exact h1
          · exact ⟨(HK.out.1.setCell (p := ⟨g, pre.length, none⟩) hgB _).drew, by simpa [World.setCell, World.drew] using HK.out.2⟩
        case measure => simp [intOf]; omega
    · have HP2 : Hid (paL c s.data.toList = pre ++ [cur]) := by
        show _ = _; rw [HP.out, List.drop_of_length_le (by rw [len_size]; omega), paG_end]
      clear HP
      go_wp2_with fail
      go_ret
      refine ⟨⟨_, rfl, ?_, (fun g0 h0 => (HO.out.lt g0 h0).1)⟩, HK.out.1⟩
      obtain ⟨g', cap', eg, hgB, hgl⟩ := own_is HO.out
      cases eg
      rw [HP2.out]
      have e1 : (pre ++ [cur]).length = pre.length + 1 := by simp
      refine ⟨g, cap, by rw [e1]; rfl, hgl, fun j hj => (own_at HO.out j _ ?_).1⟩
      unfold stV
      rw [List.getElem?_map, List.getElem?_eq_getElem hj]; rfl
end Ip
end Go.Proofs.YteimhepmcjdbpaaGreatDoor
