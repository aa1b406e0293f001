import Derived.Test.YteimhepmcjdbpaaGreatDoorIp10
namespace Go.Proofs.YteimhepmcjdbpaaGreatDoor
open Go.RowKit
namespace Ip

def hxD (n : Nat) : UInt8 := UInt8.ofNat (if n < 10 then 48 + n else 87 + n)
/-- A word as it is written: in lower case, no noughts ahead. -/
def hxT (n : Nat) : List UInt8 := if n < 16 then [hxD n] else if n < 256 then [hxD (n / 16), hxD (n % 16)] else if n < 4096 then [hxD (n / 256), hxD (n / 16 % 16), hxD (n % 16)] else [hxD (n / 4096), hxD (n / 256 % 16), hxD (n / 16 % 16), hxD (n % 16)]
theorem hxT_step (n : Nat) (h : 16 ≤ n) (h2 : n ≤ 65535) : hxT n = hxT (n / 16) ++ [hxD (n % 16)] := by
  unfold hxT
  rw [if_neg (by omega)]
  by_cases h3 : n < 256
  · rw [if_pos h3, if_pos (by omega)]; rfl
  · rw [if_neg h3, if_neg (by omega : ¬ n / 16 < 16)]
    by_cases h4 : n < 4096
    · rw [if_pos h4, if_pos (by omega), Nat.div_div_eq_div_mul]; rfl
    · rw [if_neg h4, if_neg (by omega : ¬ n / 16 < 256), if_pos (by omega), Nat.div_div_eq_div_mul, Nat.div_div_eq_div_mul]; rfl

def arr (ds : List UInt8) : List Value := (List.replicate (65 - ds.length) (0 : UInt8) ++ ds).map fun x : UInt8 => Value.int .u8 (x.toNat : Int)
theorem arr_len (ds : List UInt8) (h : ds.length ≤ 65) : (arr ds).length = 65 := by simp [arr]; omega
theorem arr_next (ds : List UInt8) (d : UInt8) (h : ds.length < 65) : (arr ds).set (64 - ds.length) (.int .u8 (d.toNat : Int)) = arr (d :: ds) := by
  unfold arr
  obtain ⟨m, hm⟩ : ∃ m, 65 - ds.length = m + 1 := ⟨64 - ds.length, by omega⟩
  have h2 : 64 - ds.length = m := by omega
  have h3 : 65 - (d :: ds).length = m := by simp; omega
  rw [hm, h2, h3, ← List.map_set (f := fun x : UInt8 => Value.int .u8 (x.toNat : Int)), List.replicate_succ', List.append_assoc, List.set_append_right _ _ (by simp)]
  simp
theorem arr_at (ds : List UInt8) (j : Nat) (hj : j < ds.length) : (arr ds)[65 - ds.length + j]? = some (.int .u8 (ds[j].toNat : Int)) := by
  unfold arr
  rw [List.getElem?_map, List.getElem?_append_right (by simp)]
  have e : 65 - ds.length + j - (List.replicate (65 - ds.length) (0 : UInt8)).length = j := by simp
  rw [e, List.getElem?_eq_getElem hj]; rfl

theorem and15 (n : Nat) (h : n ≤ 65535) : bits .and .u64 (n : Int) 15 = ((n % 16 : Nat) : Int) := by
  have e1 : (BitVec.ofInt 64 (n : Int)).toNat = n := by
    rw [BitVec.ofInt_natCast, BitVec.toNat_ofNat]; exact Nat.mod_eq_of_lt (by omega)
  have e2 : (BitVec.ofInt 64 (15 : Int)).toNat = 15 := by decide
  show IntKind.u64.wrap ((BitVec.ofInt 64 (n : Int) &&& BitVec.ofInt 64 (15 : Int)).toNat : Int) = _
  rw [BitVec.toNat_and, e1, e2, Nat.and_two_pow_sub_one_eq_mod n 4, IntKind.wrap_u64]
  omega

theorem hex36_all : ∀ k : Fin 16, ((⟨#[48, 49, 50, 51, 52, 53, 54, 55, 56, 57, 97, 98, 99, 100, 101, 102, 103, 104, 105, 106, 107, 108, 109, 110, 111, 112, 113, 114, 115, 116, 117, 118, 119, 120, 121, 122]⟩ : ByteArray)[k.1]'(by have := k.2; show k.1 < 36; omega)) = hxD k.1 := by decide
theorem hex36 (k : Nat) (h : k < 16) : ((⟨#[48, 49, 50, 51, 52, 53, 54, 55, 56, 57, 97, 98, 99, 100, 101, 102, 103, 104, 105, 106, 107, 108, 109, 110, 111, 112, 113, 114, 115, 116, 117, 118, 119, 120, 121, 122]⟩ : ByteArray)[k]'(by show k < 36; omega)) = hxD k := hex36_all ⟨k, h⟩

theorem z65 (w : World) : (zeroValue 141).run Tryz.prog w = .ok (.agg (Array.replicate 65 (.int .u8 0))) w := by kernel_rfl

/-- Where the library's table says how many noughts 16 ends with. -/
def Db (w : World) : Prop := w.cell? ⟨5, 15, none⟩ = some (.int .u8 4) ∧ 8 ≤ w.heap.size
theorem Db.step {w w' : World} (h : Db w) (hb : Below w.heap.size w w') : Db w' :=
  ⟨(hb.cell (p := ⟨5, 15, none⟩) (Nat.lt_of_lt_of_le (by decide) h.2)).trans h.1, Nat.le_trans h.2 hb.size⟩

theorem bits16 : bits .and .i64 16 15 = 0 := by decide
theorem pow_any (w : World) : Calls Tryz.prog 113 #[.int .i64 16] w fun e w' => e = .returned (.bool true) ∧ w' = w := by
  have h := bits16
  go_enter Tryz.func113, Tryz.ntmps113
  go_wp2
  go_ret
  exact ⟨rfl, rfl⟩
theorem tz_any (w : World) (h : Db w) : Calls Tryz.prog 122 #[.int .u64 16] w fun e w' => e = .returned (.int .i64 4) ∧ w' = w := by
  have hc := h.1
  have hb : bits .and .u64 16 (IntKind.u64.wrap (-16)) = 16 := by decide
  have hb2 : bits .and .u64 16 18446744073709551600 = 16 := by decide
  clear h
  go_enter Tryz.func122, Tryz.ntmps122
  go_wp2
  go_ret
  exact ⟨rfl, rfl⟩
theorem tz0_any (w : World) (h : Db w) : Calls Tryz.prog 114 #[.int .u64 16] w fun e w' => e = .returned (.int .i64 4) ∧ w' = w := by
  have H := hid (tz_any w h)
  clear h
  go_enter Tryz.func114, Tryz.ntmps114
  go_wp2_with fail
  refine (H.out).mono ?_
  rintro e w' ⟨rfl, rfl⟩
  go_wp2_with fail
  go_ret
  exact ⟨rfl, rfl⟩

set_option maxRecDepth 100000 in
set_option maxHeartbeats 4000000 in
theorem fbits_any (n : Nat) (w : World) (hn : n ≤ 65535) (h : Db w) :
    Calls Tryz.prog 99 #[.slice none 0 0, .int .u64 n, .int .i64 16, .bool false, .bool false] w fun e w' => e = .returned (.tuple #[.slice none 0 0, .string ⟨(hxT n).toArray⟩]) ∧ Below w.heap.size w w' := by
  have hz := z65
  have HT := hid (fun (W : World) (hb : Below w.heap.size w W) => tz0_any W (h.step hb))
  have HP := hid pow_any
  have hL := hid (Li.new w (Array.replicate 65 (.int .u8 0)) 141)
  have HB := hid ((Below.refl w.heap.size w).alloc (Nat.le_refl _) (.cells (Array.replicate 65 (.int .u8 0)) 141))
  clear h
  go_enter Tryz.func99, Tryz.ntmps99
  go_wp2_with fail
  refine (HP.out _).mono ?_
  rintro e w' ⟨rfl, rfl⟩
  go_wp2_with fail
  refine (HT.out _ HB.out).mono ?_
  rintro e w' ⟨rfl, rfl⟩
  go_wp2_with fail
  go_loopw [1, 13] (fun u i wr => ∃ (m k : Nat) (ds : List UInt8), u = .int .u64 m ∧ i = .int .i64 ((k : Int) + 1) ∧ k + ds.length = 64 ∧ m ≤ 65535 ∧ Hid (Below w.heap.size w wr) ∧ Hid (Li wr w.heap.size (arr ds)) ∧ Hid (m * 16 ^ ds.length ≤ 65535 ∧ hxT m ++ ds = hxT n)) (fun u _ _ => (intOf u).toNat)
  case atStart => exact ⟨n, 64, [], rfl, rfl, rfl, hn, HB.out, hL.out, by simpa using hn, by simp⟩
  case round =>
    obtain ⟨m, k, ds, rfl, rfl, hk, hm, hB, hLi, HM⟩ := hrel
    by_cases h16 : 16 ≤ m
    · have hlen : ds.length ≤ 2 := by
        rcases Nat.lt_or_ge 2 ds.length with h | h
        · have h1 := HM.out.1
          have h2 : 16 ^ 3 ≤ 16 ^ ds.length := Nat.pow_le_pow_right (by decide) h
          have h3 : 16 * 16 ^ 3 ≤ m * 16 ^ ds.length := Nat.mul_le_mul h16 h2
          omega
        · exact h
      have hA := and15 m hm
      have hbd : m % 16 < 36 := by omega
      have h16' : (16 : Int) ≤ (m : Int) := by omega
      obtain ⟨k', rfl⟩ : ∃ k', k = k' + 1 := ⟨k - 1, by omega⟩
      have hck : ∃ v, (arr ds)[k' + 1]? = some v := ⟨_, List.getElem?_eq_getElem (by rw [arr_len ds (by omega)]; omega)⟩
      obtain ⟨v0, hck⟩ := hck
      obtain ⟨ck, zk⟩ := hLi.out.at (k' + 1) v0 hck
      have HX := hid (hex36 (m % 16) (by omega))
      have N := hid (hLi.out.set (k' + 1) (.int .u8 ((hxD (m % 16)).toNat : Int)))
      have hset := arr_next ds (hxD (m % 16)) (by omega)
      have hkk : 64 - ds.length = k' + 1 := by omega
      rw [hkk] at hset
      rw [hset] at N
      have HS := hid hxT_step
      clear hset hck
      go_wp2_with fail
      go_roundw
      case rel =>
        rw [HX.out]
        refine ⟨m / 16, k', hxD (m % 16) :: ds, rfl, rfl, by simp; omega, by omega, hB.out.setCell (Nat.le_refl _) _, N.out, ?_⟩
        refine ⟨?_, ?_⟩
        · have h1 := HM.out.1
          have e : m / 16 * 16 ^ (hxD (m % 16) :: ds).length = (m / 16 * 16) * 16 ^ ds.length := by
            rw [List.length_cons, Nat.pow_succ, Nat.mul_comm (16 ^ ds.length), Nat.mul_assoc]
          rw [e]
          exact Nat.le_trans (Nat.mul_le_mul_right _ (Nat.div_mul_le_self m 16)) h1
        · rw [← HM.out.2, HS.out m h16 hm, List.append_assoc]; rfl
      case measure => simp [intOf]; omega
    · have h16' : ¬ (16 : Int) ≤ (m : Int) := by omega
      have hbd : m < 36 := by omega
      have hlen : ds.length ≤ 64 := by omega
      have hck : ∃ v, (arr ds)[k]? = some v := ⟨_, List.getElem?_eq_getElem (by rw [arr_len ds (by omega)]; omega)⟩
      obtain ⟨v0, hck⟩ := hck
      obtain ⟨ck, zk⟩ := hLi.out.at k v0 hck
      have N := hLi.out.set k (.int .u8 ((hxD m).toNat : Int))
      have hset := arr_next ds (hxD m) (by omega)
      have hkk : 64 - ds.length = k := by omega
      rw [hkk] at hset
      rw [hset] at N
      have hl2 : (hxD m :: ds).length = 65 - k := by simp; omega
      have hk64 : 65 - (hxD m :: ds).length = k := by omega
      have hback := run_convert_bytes_back (P := Tryz.prog) (wr.setCell ⟨w.heap.size, k, none⟩ (.int .u8 ((hxD m).toNat : Int))) 64 9 5 ⟨w.heap.size, k, none⟩ (65 - k) (hxD m :: ds) Tryz.underlying64 Tryz.underlying5 Tryz.underlying9 (fun j hj => by
        have h := (N.at _ _ (arr_at (hxD m :: ds) j hj)).1
        rw [hk64] at h
        unfold Addr.add
        by_cases hj0 : j = 0
        · subst hj0; exact h
        · rw [if_neg hj0]; exact h)
      rw [hl2] at hback
      have HR : Hid (hxT n = hxD m :: ds) := by
        show _ = _
        rw [← HM.out.2]; unfold hxT; rw [if_pos (by omega)]; rfl
      have HX := hid (hex36 m (by omega))
      have HBK := hid hback
      have hk1 : (k : Int) ≤ 65 := by omega
      clear hset hck N hback hLi
      go_upto_region 30 with fail
      rw [HX.out]
      have hb := HBK.out
      have HF : Hid (Below w.heap.size w (wr.setCell ⟨w.heap.size, k, none⟩ (.int .u8 ((hxD m).toNat : Int)))) := hB.out.setCell (Nat.le_refl _) _
      clear HBK
      generalize wr.setCell ⟨w.heap.size, k, none⟩ (.int .u8 ((hxD m).toNat : Int)) = w3 at *
      go_wp2_with fail
      go_ret2
      exact ⟨by rw [HR.out]; rfl, HF.out⟩
theorem fuI_any (n : Nat) (w : World) (hn : n ≤ 65535) (h : Db w) :
    Calls Tryz.prog 74 #[.int .u64 n, .int .i64 16] w fun e w' => e = .returned (.string ⟨(hxT n).toArray⟩) ∧ Below w.heap.size w w' := by
  have hok := Ok.start w
  have H := hid (fbits_any n w hn h)
  clear h
  generalize (⟨(hxT n).toArray⟩ : ByteArray) = r at *
  go_enter Tryz.func74, Tryz.ntmps74
  go_wp2_with fail
  refine (H.out).mono ?_
  rintro e w' ⟨rfl, hb'⟩
  replace hok := hok.step hb'
  clear hb'
  go_wp2_with fail
  go_ret
  exact ⟨rfl, hok.1⟩
theorem fu_any (n : Nat) (w : World) (hn : n ≤ 65535) (h : Db w) :
    Calls Tryz.prog 55 #[.int .u64 n, .int .i64 16] w fun e w' => e = .returned (.string ⟨(hxT n).toArray⟩) ∧ Below w.heap.size w w' := by
  have hok := Ok.start w
  have H := hid (fuI_any n w hn h)
  clear h
  generalize (⟨(hxT n).toArray⟩ : ByteArray) = r at *
  go_enter Tryz.func55, Tryz.ntmps55
  go_wp2_with fail
  refine (H.out).mono ?_
  rintro e w' ⟨rfl, hb'⟩
  replace hok := hok.step hb'
  clear hb'
  go_wp2_with fail
  go_ret
  exact ⟨rfl, hok.1⟩
end Ip
end Go.Proofs.YteimhepmcjdbpaaGreatDoor
