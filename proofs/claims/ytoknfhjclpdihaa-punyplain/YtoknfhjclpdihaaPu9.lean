import Derived.Test.YtoknfhjclpdihaaPu8
import Derived.Laws.IdiomStrings
namespace Go.Proofs.Ytoknfhjclpdihaa
namespace Pu
open Go.RowKit Od

/-- Numbers as bytes. -/
def byt (l : List Int) : ByteArray := ⟨(l.map (fun n => UInt8.ofNat n.toNat)).toArray⟩
theorem conv_byt {w : World} {B : Nat} {v : Value} {l : List Int} (h : By B w v l) (hl : ∀ x ∈ l, 0 ≤ x ∧ x ≤ 255) : (convert 50 9 v).run Try.prog w = .ok (.string (byt l)) w := by
  have h0 := h.own
  rcases h0.2 with ⟨h1, h2⟩ | ⟨g, cap, cur, rfl, h2, h3, h4, h5, h6, h7⟩
  · have : l = [] := List.eq_nil_of_length_eq_zero h2
    subst this
    rw [h1, run_convert_bytes_string w 50 9 5 none 0 0 Try.underlying50 Try.underlying5 Try.underlying9]
    simp [Conv.bytesToString, byt]
    rfl
  · have hlen : (l.map (fun n => UInt8.ofNat n.toNat)).length = l.length := by simp
    have := run_convert_bytes_back w 50 9 5 ⟨g, 0, none⟩ cap (l.map (fun n => UInt8.ofNat n.toNat)) Try.underlying50 Try.underlying5 Try.underlying9 (fun j hj => by
      rw [hlen] at hj
      have e2 : (⟨g, 0, none⟩ : Addr).add j = ⟨g, 0 + j, none⟩ := by unfold Addr.add; split <;> simp_all
      rw [e2, Nat.zero_add, h0.cellAt j (by omega)]
      have hb := hl l[j] (List.getElem_mem hj)
      simp [ivs, hj]
      omega)
    rw [hlen] at this
    exact this

theorem own_alt {w w' : World} {b B n size : Nat} {e : TypeId} {v : Value} {xs : List Value} (h : w.ownsRow B e size v n xs) (ha : Alt b w w') (hb : b < B) : w'.ownsRow B e size v n xs :=
  ⟨h.1, h.2.imp id fun ⟨g, cap, cur, h1, h2, h3, h4⟩ => ⟨g, cap, cur, h1, h2, (ha.block g (Array.getElem?_eq_some_iff.1 h3).1 (by omega)).trans h3, h4⟩⟩
/-- What Encode holds: a tally, and what is written. -/
structure EW (w0 : World) (bt B : Nat) (a : List Int) (n1 : Nat) (v : Value) (out : List Int) (W : World) : Prop where
  ok : Below w0.heap.size w0 W
  tal : ∃ R, Blk W bt R [] ∧ Tal R a ∧ R.length = n1
  by_ : By B W v out
  lo : w0.heap.size ≤ bt ∧ bt < B
theorem EW.step {w0 : World} {bt B : Nat} {a : List Int} {n1 : Nat} {v : Value} {out : List Int} {W W' : World} (h : EW w0 bt B a n1 v out W) (hb : Below W.heap.size W W') : EW w0 bt B a n1 v out W' := by
  obtain ⟨R, h1, h2, h3⟩ := h.tal
  exact ⟨h.ok.trans (hb.mono h.ok.size), ⟨R, h1.step hb, h2, h3⟩, h.by_.step hb, h.lo⟩
theorem EW.add {w0 : World} {bt B : Nat} {a a' : List Int} {n1 : Nat} {v : Value} {out : List Int} {W W' : World} (h : EW w0 bt B a n1 v out W) (ha : Alt bt W W') (hR : ∃ R, Blk W' bt R [] ∧ Tal R a' ∧ R.length = n1) : EW w0 bt B a' n1 v out W' :=
  ⟨h.ok.trans (ha.below h.ok.size h.lo.1), hR, ⟨own_alt h.by_.own ha h.lo.2, Nat.le_trans h.by_.lo ha.size⟩, h.lo⟩
theorem EW.put {w0 : World} {bt B : Nat} {a : List Int} {n1 : Nat} {v v' : Value} {out out' : List Int} {W W' : World} (h : EW w0 bt B a n1 v out W) (hg : Gr W v W' v') (hb : By B W' v' out') : EW w0 bt B a n1 v' out' W' := by
  obtain ⟨R, h1, h2, h3⟩ := h.tal
  have hlt : ∀ k, v.ownBlock = some k → B ≤ k := fun k hk => (h.by_.own.lt k hk).1
  have hB := h.lo
  refine ⟨h.ok.trans (below_of_grown hg.grown _ h.ok.size (fun k hk => by have := hlt k hk; omega)), ⟨R, ?_, h2, h3⟩, hb, h.lo⟩
  refine (hg.grown.block bt h1.lt (fun e => ?_)).trans h1
  have := hlt bt e.symm
  omega

def aK (zs : List Int) (k : Nat) : List Int := lowA (zs.take k) ++ List.replicate (zs.length - k) 0
theorem aK_len (zs : List Int) (k : Nat) (h : k ≤ zs.length) : (aK zs k).length = zs.length := by
  unfold aK lowA
  simp; omega
theorem aK_get (zs : List Int) (k : Nat) (h : k < zs.length) : (aK zs k)[k]'(by rw [aK_len zs k (by omega)]; exact h) = 0 := by
  have hl : (lowA (zs.take k)).length = k := by unfold lowA; simp; omega
  unfold aK
  rw [List.getElem_append_right (by omega)]
  simp
theorem aK_succ (zs : List Int) (k : Nat) (h : k < zs.length) : aK zs (k + 1) = (aK zs k).set k (if zs[k] < 128 then 1 else 0) := by
  have hl : (lowA (zs.take k)).length = k := by unfold lowA; simp; omega
  unfold aK
  rw [List.set_append_right _ _ (by omega), hl, Nat.sub_self, List.take_succ_eq_append_getElem h]
  have e : zs.length - k = (zs.length - (k + 1)) + 1 := by omega
  rw [e, List.replicate_succ, List.set_cons_zero]
  unfold lowA
  rw [List.map_append]
  simp
theorem set_same (l : List Int) (k : Nat) (v : Int) (h : k < l.length) (e : l[k] = v) : l.set k v = l := by
  subst e
  exact List.set_getElem_self h
theorem lowL_succ (zs : List Int) (k : Nat) (h : k < zs.length) : lowL (zs.take (k + 1)) = lowL (zs.take k) ++ if zs[k] < 128 then [zs[k]] else [] := by
  unfold lowL
  rw [List.take_succ_eq_append_getElem h, List.filter_append]
  congr 1
  by_cases e : zs[k] < 128
  · rw [if_pos e, List.filter_cons_of_pos (by simpa using e)]; rfl
  · rw [if_neg e, List.filter_cons_of_neg (by simpa using e)]; rfl
theorem aK_end (zs : List Int) : aK zs zs.length = lowA zs := by unfold aK; rw [List.take_length, Nat.sub_self]; simp
theorem aK_start (zs : List Int) : aK zs 0 = List.replicate zs.length 0 := by unfold aK lowA; simp
end Pu
end Go.Proofs.Ytoknfhjclpdihaa
