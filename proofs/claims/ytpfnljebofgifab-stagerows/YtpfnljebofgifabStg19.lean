import Derived.Test.YtpfnljebofgifabStg18
namespace Go.Proofs.Ytpfnljebofgifab
open Go.RowKit

theorem three_len (c : SRow Int → List Value) (hc : ∀ x, (c x).length = 3) : ∀ m : List (SRow Int), (m.flatMap c).length = m.length * 3
  | [] => rfl
  | x :: m => by rw [List.flatMap_cons, List.length_append, three_len c hc m, hc, List.length_cons]; omega

theorem set_last (c : SRow Int → List Value) (c0 c1 c2 : SRow Int → Value) (hc : ∀ x, c x = [c0 x, c1 x, c2 x]) (m : List (SRow Int)) (y : SRow Int) (u : Value) : ((m ++ [y]).flatMap c).set (m.length * 3 + 1) u = m.flatMap c ++ [c0 y, u, c2 y] := by
  have hl := three_len c (fun x => by rw [hc]; rfl) m
  rw [List.flatMap_append, List.set_append_right _ _ (by omega), hl]
  have e : m.length * 3 + 1 - m.length * 3 = 1 := by omega
  rw [e]
  simp [hc]

/-- The last row's To, in memory. -/
theorem own_last {w : World} {B g cap : Nat} {e : TypeId} {c : SRow Int → List Value} {c0 c1 c2 : SRow Int → Value} (hc : ∀ x, c x = [c0 x, c1 x, c2 x]) {m : List (SRow Int)} {y : SRow Int} (h : w.ownsRow B e 3 (.slice (some ⟨g, 0, none⟩) (m.length + 1) cap) (m.length + 1) ((m ++ [y]).flatMap c)) (u : Value) :
    w.cell? ⟨g, m.length * 3 + 1, none⟩ = some (c1 y) ∧ w.cell? ⟨g, m.length * 3 + 2, none⟩ = some (c2 y) ∧ w.frozen? ⟨g, m.length * 3 + 1, none⟩ = false ∧ (w.setCell ⟨g, m.length * 3 + 1, none⟩ u).ownsRow B e 3 (.slice (some ⟨g, 0, none⟩) (m.length + 1) cap) (m.length + 1) (m.flatMap c ++ [c0 y, u, c2 y]) := by
  have hat := three_at c c0 c1 c2 hc (m ++ [y]) m.length (by simp)
  have ey : (m ++ [y])[m.length]'(by simp) = y := by simp
  rw [ey] at hat
  refine ⟨?_, ?_, h.frozenAt _, ?_⟩
  · rw [h.cellAt _ (by omega)]; exact hat.2.1
  · rw [h.cellAt _ (by omega)]; exact hat.2.2
  · have := h.stored (m.length * 3 + 1) u
    rw [set_last c c0 c1 c2 hc] at this
    exact this.1

theorem setLast_len (out : List (SRow Int)) (t : Int) : (setLast out t).length = out.length := by
  rcases List.eq_nil_or_concat out with h0 | ⟨m, y, h0⟩
  · rw [h0]; rfl
  · rw [List.concat_eq_append] at h0; rw [h0, setLast_snoc]; simp
theorem scan_len (val : Int → Int) (other : Int) : ∀ r : Nat, (scan val other r).1.length ≤ r
  | 0 => Nat.le_refl _
  | r + 1 => by
    have ih := scan_len val other r
    show (if _ then _ else if _ then _ else _ : List (SRow Int)).length ≤ _
    split
    · rw [setLast_len]; omega
    · split
      · rw [List.length_append]; simp; omega
      · omega

section
variable {w : World} {p : Nat} {l : List (SRow Int)} {other : Int} {f : Nat → Value} {vals : List Int} {nr : List (SRow Nat)} {bl : List (List Nat)} {pl : List Nat}

theorem TabP.inj (h : TabP w p l other f vals nr bl pl) {a b : Nat} {x y : Int} (ha : vals[a]? = some x) (hb : vals[b]? = some y) : a = b ↔ x = y := by
  constructor
  · intro e; subst e; rw [ha] at hb; exact Option.some.inj hb
  · intro e; subst e
    exact (List.getElem?_inj (List.getElem?_eq_some_iff.1 ha).1 h.numd.nodup).1 (ha.trans hb.symm)

set_option maxHeartbeats 4000000 in
set_option maxRecDepth 100000 in
theorem trows_any (h : TabP w p l other f vals nr bl pl) :
    Calls Try.prog 13 #[.pointer (some ⟨p, 0, none⟩)] w fun e w' => ∃ v, e = .returned v ∧ w'.ownsRow w.heap.size 43 3 v (scan (at' other l) other 1114112).1.length ((scan (at' other l) other 1114112).1.flatMap vCells) ∧ Below w.heap.size w w' := by
  obtain ⟨i0, hi, hz0, hz1, hz2⟩ := info_parts Try.info_vrow
  have HI := hid (And.intro hi (And.intro hz0 (And.intro hz1 hz2)))
  clear hi hz0 hz1 hz2
  have HT0 := hid h
  clear h
  go_enter Try.func13, Try.ntmps13
  go_wp2
  go_loopg [5, 3, 4] 1114112 (fun g i ov nv wr => ∃ (r : Nat) (R : Int) (n : Nat), Hid (R = r ∧ r ≤ 1114112 ∧ g = 1114112 - r) ∧ i = .int .i32 R ∧ nv = .int .u16 (n : Nat) ∧ Hid (vals[n]? = some (scan (at' other l) other r).2) ∧
    Hid (wr.ownsRow w.heap.size 43 3 ov (scan (at' other l) other r).1.length ((scan (at' other l) other r).1.flatMap vCells)) ∧ Below w.heap.size w wr)
  case atStart => exact ⟨0, 0, 0, ⟨rfl, by omega, by omega⟩, rfl, rfl, HT0.out.numd.head, World.ownsRow_nil _ _ _ _, Below.refl _ _⟩
  case round =>
    obtain ⟨r, R, n, HR, rfl, rfl, Hn, Ho, hb⟩ := hrel
    have hTr := HT0.out.step hb
    by_cases hlt : r < 1114112
    · have hR0 : 0 ≤ R := by have := HR.out.1; omega
      have hR1 : R ≤ 1114111 := by have := HR.out.1; omega
      have hval := hTr.num R
      have HA := hid (at_any hTr R hR0 hR1)
      have hsc : Hid (scan (at' other l) other (r + 1) = scanS other (at' other l R) R (scan (at' other l) other r)) := by
        show _ = _
        rw [HR.out.1]; rfl
      have hok := scan_ok (at' other l) other r (by omega)
      have HOK := hid hok
      have hz : at' 0 nr R = 0 ↔ at' other l R = other := hTr.inj hval HT0.out.numd.head
      have hs : at' 0 nr R = n ↔ at' other l R = (scan (at' other l) other r).2 := hTr.inj hval Hn.out
      have HTr := hid hTr
      have HVal := hid hval
      have HZ := hid hz
      have HSS := hid hs
      have hlen : Hid ((scan (at' other l) other r).1.length ≤ 1114111) := Nat.le_trans (scan_len _ _ r) (by omega)
      clear hTr hval hz hs hok hlt
      go_wp2_with fail
      refine HA.out.mono ?_
      rintro e w1 ⟨rfl, n1, hw1⟩
      have b1 : Below wr.heap.size wr w1 := by rw [hw1]; exact below_drewN (Below.refl _ _) _
      have Ho1 := hid (own_keep Ho.out (fun k hk => b1.block k (Ho.out.lt k hk).2))
      have HT1 := hid (HTr.out.step b1)
      have hb1 := hb.trans (b1.mono hb.size)
      clear hw1 b1 HA hb Ho HTr
      generalize scan (at' other l) other r = s at *
      obtain ⟨s1, s2⟩ := s
      generalize at' other l R = v at *
      generalize at' 0 nr R = n' at *
      simp only at Ho1 HSS hlen Hn
      by_cases c0 : v = other
      · have e0 : n' = 0 := HZ.out.2 c0
        have hsc2 : scan (at' other l) other (r + 1) = (s1, v) := by
          rw [hsc.out]; unfold scanS
          rw [if_neg (fun h => h.1 c0), if_neg (fun h => h c0)]
        have HS2 := hid hsc2
        obtain ⟨ao, cap, rfl⟩ := own_slice Ho1.out
        clear hsc hsc2 HZ HSS HOK hlen
        subst e0
        go_wp2_with fail
        go_roundg (1114112 - (r + 1))
        case measure => have := HR.out; omega
        case rel => exact ⟨r + 1, R + 1, 0, ⟨by have := HR.out; omega, by have := HR.out; omega, rfl⟩, by go_num, rfl, by rw [HS2.out]; exact HVal.out, by rw [HS2.out]; exact Ho1.out, hb1⟩
      · have e0 : ¬ n' = 0 := fun e => c0 (HZ.out.1 e)
        have e1 : ((n' : Int) == 0) = false := by simpa using e0
        by_cases c1 : v = s2
        · have e2 : n' = n := HSS.out.2 c1
          obtain ⟨m, y, hm, _, _⟩ := HOK.out.ahead (by rw [← c1]; exact c0)
          simp only at hm
          subst hm
          have hsc2 : scan (at' other l) other (r + 1) = (m ++ [⟨y.f, R, y.v⟩], v) := by
            rw [hsc.out]; unfold scanS
            rw [if_pos ⟨c0, c1⟩]
            show (setLast (m ++ [y]) R, v) = _
            rw [setLast_snoc]
          have HS2 := hid hsc2
          have ho := Ho1.out
          rw [List.length_append] at ho
          have ho' : w1.ownsRow w.heap.size 43 3 _ (m.length + 1) ((m ++ [y]).flatMap vCells) := ho
          have hgs : ∃ g cap, u3 = .slice (some ⟨g, 0, none⟩) (m.length + 1) cap := by
            rcases ho'.2 with ⟨_, h2⟩ | ⟨g, cap, cur, h2, _⟩
            · omega
            · exact ⟨g, cap, h2⟩
          obtain ⟨g, cap, rfl⟩ := hgs
          obtain ⟨k0, _, k1, k2⟩ := own_last (c := vCells) (fun _ => rfl) ho' (.int .i32 R)
          have HO2 := hid k2
          have hbk := hid (hb1.setCell (p := ⟨g, m.length * 3 + 1, none⟩) (ho'.lt g rfl).1 (.int .i32 R))
          have hlen2 : (m.length : Int) ≤ 1114111 := by have := hlen.out; simp at this; omega
          have z1 : wrap64 ((m.length : Int) + 1 - 1) = (m.length : Int) := by unfold wrap64; omega
          have z2 : (m.length : Int) + 1 - 1 = (m.length : Int) := by omega
          have e3 : ((n' : Int) == (n : Int)) = true := by simp [e2]
          clear hsc hsc2 HZ HSS HOK hlen ho ho' k2 Ho1 hb1 e2
          go_wp2_with fail
          go_roundg (1114112 - (r + 1))
          case measure => have := HR.out; omega
          case rel =>
            refine ⟨r + 1, R + 1, n', ⟨by have := HR.out; omega, by have := HR.out; omega, rfl⟩, by go_num, rfl, by rw [HS2.out]; exact HVal.out, ?_, hbk.out⟩
            rw [HS2.out]
            show World.ownsRow _ _ _ _ _ (m ++ ([⟨y.f, R, y.v⟩] : List (SRow Int))).length _
            rw [List.length_append, List.flatMap_append]
            exact HO2.out
        · have e2 : ¬ n' = n := fun e => c1 (HSS.out.1 e)
          have e3 : ((n' : Int) == (n : Int)) = false := by simp; omega
          have hsc2 : scan (at' other l) other (r + 1) = (s1 ++ [⟨R, R, v⟩], v) := by
            rw [hsc.out]; unfold scanS
            rw [if_neg (fun h => c1 h.2), if_pos c0]
          have HS2 := hid hsc2
          obtain ⟨g, cap0, x0, x1, x2⟩ := HT1.out.value n' v HVal.out
          have hfew := HT1.out.few
          have x1' : (n' : Int) < (vals.length : Int) := by omega
          obtain ⟨ao, cap, rfl⟩ := own_slice Ho1.out
          have hsz := hid hb1.size
          clear hsc hsc2 HZ HSS HOK e2 HT1
          go_wp2_with (at_builtin; refine wpList_append_own_at _ rfl (.tmp 30) (.tmp 41) 25 rfl w.heap.size 43 i0 (.agg #[.int .i32 0, .int .i32 0, .int .i64 0]) 3 16 Try.underlying25 HI.out.1 HI.out.2.1 HI.out.2.2.1 HI.out.2.2.2 rfl (by decide) (.slice ao s1.length cap) _ _ rfl (Ho1.out.alloc _) ⟨w1.heap.size, 0, none⟩ 1 1 (vCells ⟨R, R, v⟩) rfl rfl (news3 (heap_alloc_new w1 _)) (fun u hu => by simp [vCells] at hu; rcases hu with rfl | rfl <;> rfl) (by unfold maxLen; have := hlen.out; omega) (by have := hlen.out; omega) (by simp; have := hsz.out; omega) ?_; intro v' w3 ho hg hnil hloc; obtain ⟨ao3, cap3, rfl⟩ := own_slice ho; have HO3 := hid ho; have HB3 := hid ((hb1.alloc hsz.out (.cells #[.int .i32 R, .int .i32 R, .int .i64 v] 43)).grown hg (by simp; have := hsz.out; omega) (fun k e => (Ho1.out.lt k e).1)); clear ho hg hnil hloc)
          go_roundg (1114112 - (r + 1))
          case measure => have := HR.out; omega
          case rel =>
            refine ⟨r + 1, R + 1, n', ⟨by have := HR.out; omega, by have := HR.out; omega, rfl⟩, by go_num, rfl, by rw [HS2.out]; exact HVal.out, ?_, HB3.out⟩
            rw [HS2.out]
            show World.ownsRow _ _ _ _ _ (s1 ++ ([⟨R, R, v⟩] : List (SRow Int))).length _
            rw [List.length_append, List.flatMap_append]
            simpa using HO3.out
    · have hR1 : ¬ R ≤ 1114111 := by have := HR.out.1; omega
      have e : r = 1114112 := by have := HR.out; omega
      have Ho2 : Hid (wr.ownsRow w.heap.size 43 3 u3 (scan (at' other l) other 1114112).1.length ((scan (at' other l) other 1114112).1.flatMap vCells)) := by rw [← e]; exact Ho.out
      clear e Ho Hn HR hlt hTr
      obtain ⟨ao, cap, rfl⟩ := own_slice Ho2.out
      generalize hs : scan (at' other l) other 1114112 = s at Ho2 ⊢
      have HSE := hid hs
      clear hs
      go_wp2_with fail
      go_ret
      exact ⟨_, rfl, by rw [HSE.out]; exact Ho2.out, hb⟩
end
end Go.Proofs.Ytpfnljebofgifab
