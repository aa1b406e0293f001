import Derived.Test.YthdchapieninbaaEsc1
import Derived.Lib.BufferRead
namespace Go.Proofs.Ythdchapieninbaa
open Go.RowKit

def hexd (n : Nat) : UInt8 := UInt8.ofNat (if n < 10 then n + 48 else n + 55)
/-- The escape of a byte, as it is written. -/
def ofU (c : UInt8) : List UInt8 := [37, hexd (c.toNat / 16), hexd (c.toNat % 16)]

theorem hexd_nib (n : Nat) (h : n < 16) : ((hexd n).toNat : Int) = nibI n := by
  have e : (hexd n).toNat = (if n < 10 then n + 48 else n + 55) % 256 := UInt8.toNat_ofNat'
  rw [e]; unfold nibI; split <;> split <;> omega

def u8s (l : List UInt8) : List Value := l.map fun x => .int .u8 (x.toNat : Int)
theorem conv_new (l : List UInt8) (w : World) : (convert 35 9 (.slice (some ⟨w.heap.size, 0, none⟩) l.length l.length)).run Try.prog (w.alloc (.cells (u8s l).toArray 5)) = .ok (.string ⟨l.toArray⟩) (w.alloc (.cells (u8s l).toArray 5)) := by
  refine run_convert_bytes_back _ 35 9 5 ⟨w.heap.size, 0, none⟩ l.length l Try.underlying35 Try.underlying5 Try.underlying9 fun j hj => ?_
  have e : (w.alloc (.cells (u8s l).toArray 5)).cell? ⟨w.heap.size, j, none⟩ = some (.int .u8 (l[j].toNat : Int)) := by
    rw [World.cell?_alloc_new]; simp [u8s, hj]
  unfold Addr.add
  by_cases hj0 : j = 0
  · subst hj0; exact e
  · rw [if_neg hj0]; simpa using e
theorem conv_one (c : UInt8) (w : World) : (convert 35 9 (.slice (some ⟨w.heap.size, 0, none⟩) 1 1)).run Try.prog (w.alloc (.cells #[.int .u8 (c.toNat : Int)] 5)) = .ok (.string ⟨#[c]⟩) (w.alloc (.cells #[.int .u8 (c.toNat : Int)] 5)) := conv_new [c] w

theorem single_any (c : UInt8) (w : World) :
    Calls Try.prog 26 #[.int .u8 (c.toNat : Int)] w fun e w' => e = .returned (.string ⟨#[c]⟩) ∧ Below w.heap.size w w' := by
  have hconv := conv_one c w
  generalize (⟨#[c]⟩ : ByteArray) = r at *
  go_enter Try.func26, Try.ntmps26
  go_wp2
  go_ret
  exact ⟨rfl, (Below.refl _ _).alloc (Nat.le_refl _) _⟩

theorem nib_u (v : Int) (n : Nat) (w : World) (hv : v = n) (hn : n < 16) :
    Calls Try.prog 33 #[.int .i64 v] w fun e w' => e = .returned (.tuple #[.int .u8 ((hexd n).toNat : Int), .bool true]) ∧ w' = w := by
  have := nib_yes v w (by omega) (by omega)
  rw [hv, ← hexd_nib n hn] at this
  rw [hv]; exact this

theorem conv_three (a b c : UInt8) (w : World) : (convert 35 9 (.slice (some ⟨w.heap.size, 0, none⟩) 3 3)).run Try.prog (w.alloc (.cells #[.int .u8 (a.toNat : Int), .int .u8 (b.toNat : Int), .int .u8 (c.toNat : Int)] 5)) = .ok (.string ⟨#[a, b, c]⟩) (w.alloc (.cells #[.int .u8 (a.toNat : Int), .int .u8 (b.toNat : Int), .int .u8 (c.toNat : Int)] 5)) := conv_new [a, b, c] w

theorem low_all : ((List.range 256).all fun n => bits BinOp.and IntKind.u8 (n : Int) 15 == ((n % 16 : Nat) : Int)) = true := by decide +kernel
theorem low_is (c : UInt8) : bits BinOp.and IntKind.u8 (c.toNat : Int) 15 = ((c.toNat % 16 : Nat) : Int) := by
  have := List.all_eq_true.1 low_all c.toNat (by have := c.toNat_lt; simp; omega)
  exact beq_iff_eq.1 this

theorem of_any (c : UInt8) (w : World) :
    Calls Try.prog 16 #[.int .u8 (c.toNat : Int)] w fun e w' => e = .returned (.string ⟨(ofU c).toArray⟩) ∧ Below w.heap.size w w' := by
  have hc := byte_le c
  have hc' := c.toNat_lt
  have hlow := low_is c
  have HR : Hid ((⟨(ofU c).toArray⟩ : ByteArray) = ⟨#[37, hexd (c.toNat / 16), hexd (c.toNat % 16)]⟩) := rfl
  have hconv := conv_three 37 (hexd (c.toNat / 16)) (hexd (c.toNat % 16)) w
  have h37 : ((37 : UInt8).toNat : Int) = 37 := rfl
  rw [h37] at hconv
  have HA := hid (fun w => nib_u ((c.toNat : Int) / 16) (c.toNat / 16) w (by omega) (by omega))
  have HB := hid (fun v (hv : v = ((c.toNat % 16 : Nat) : Int)) w => nib_u v (c.toNat % 16) w hv (by omega))
  generalize (⟨#[37, hexd (c.toNat / 16), hexd (c.toNat % 16)]⟩ : ByteArray) = r at *
  generalize hexd (c.toNat / 16) = x at *
  generalize hexd (c.toNat % 16) = y at *
  clear hc'
  go_enter Try.func16, Try.ntmps16
  go_wp2_with fail
  refine (HA.out _).mono ?_
  rintro e w' ⟨rfl, rfl⟩
  go_wp2_with fail
  refine (HB.out _ (by first | exact hlow | (simp only [Int.natCast_emod]; rfl) | omega) _).mono ?_
  rintro e w' ⟨rfl, rfl⟩
  go_wp2_with fail
  go_ret
  exact ⟨ret_string HR.out.symm, (Below.refl _ _).alloc (Nat.le_refl _) _⟩

theorem hex_all : ((List.range 256).all fun n => ((⟨#[37]⟩ : ByteArray) ++ (⟨#[48, 49, 50, 51, 52, 53, 54, 55, 56, 57, 65, 66, 67, 68, 69, 70]⟩ : ByteArray).extract (n / 16) (n / 16 + 1) ++ (⟨#[48, 49, 50, 51, 52, 53, 54, 55, 56, 57, 65, 66, 67, 68, 69, 70]⟩ : ByteArray).extract (n % 16) (n % 16 + 1)).data.toList == [37, hexd (n / 16), hexd (n % 16)]) = true := by decide +kernel
theorem bytes_ext {a b : ByteArray} (h : a.data.toList = b.data.toList) : a = b := by
  cases a; cases b; simp at h; rw [h]
theorem hex_is (c : UInt8) : (⟨#[37]⟩ : ByteArray) ++ (⟨#[48, 49, 50, 51, 52, 53, 54, 55, 56, 57, 65, 66, 67, 68, 69, 70]⟩ : ByteArray).extract (c.toNat / 16) (c.toNat / 16 + 1) ++ (⟨#[48, 49, 50, 51, 52, 53, 54, 55, 56, 57, 65, 66, 67, 68, 69, 70]⟩ : ByteArray).extract (c.toNat % 16) (c.toNat % 16 + 1) = ⟨(ofU c).toArray⟩ := by
  have := List.all_eq_true.1 hex_all c.toNat (by have := c.toNat_lt; simp; omega)
  exact bytes_ext (beq_iff_eq.1 this)

theorem rof_any (c : UInt8) (w : World) :
    Calls Try.prog 19 #[.int .u8 (c.toNat : Int)] w fun e w' => e = .returned (.string ⟨(ofU c).toArray⟩) ∧ ∃ n, w' = w.drewN n := by
  have hc := byte_le c
  have HX := hid (hex_is c)
  go_enter Try.func19, Try.ntmps19
  go_wp2_with fail
  go_quiet (fail)
  go_wp2_with fail
  go_ret
  exact ⟨ret_string HX.out, _, rfl⟩
end Go.Proofs.Ythdchapieninbaa
