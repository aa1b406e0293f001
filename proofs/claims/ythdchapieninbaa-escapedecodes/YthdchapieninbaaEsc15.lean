import Derived.Test.YthdchapieninbaaEsc10
import Derived.Test.YthdchapieninbaaEsc11
import Derived.Test.YthdchapieninbaaEsc12
import Derived.Test.YthdchapieninbaaEsc14
namespace Go.Proofs.Ythdchapieninbaa
open Go.RowKit

theorem dec_yes (s : ByteArray) (w : World) (hs : s.size ≤ 1000000) (h : rightL s.data.toList = true) :
    Calls Try.prog 9 #[.string s] w fun e w' => e = .returned (.tuple #[.string ⟨(repl (fun _ c => [c]) s.data.toList).toArray⟩, .bool true]) ∧ Below w.heap.size w w' := by
  have hok := Ok.start w
  have hr := fun w => right_any s w hs
  rw [h] at hr
  have HR := hid hr
  have HP := hid (fun w => repdec_any (fun _ c => [c]) s w hs (fun W x c _ => dec1_any x c W) (fun x c _ => by simp))
  clear hr h
  generalize (⟨(repl (fun _ c => [c]) s.data.toList).toArray⟩ : ByteArray) = r at *
  go_enter Try.func9, Try.ntmps9
  go_wp2_with (first | (go_at_call 11; refine (HR.out _).mono ?_; rintro e w' ⟨rfl, hb'⟩; replace hok := hok.step hb'; clear hb') | (go_at_call 24; refine (HP.out _).mono ?_; rintro e w' ⟨rfl, hb'⟩; replace hok := hok.step hb'; clear hb'))
  go_ret2
  exact ⟨rfl, hok.1⟩

theorem dec_no (s : ByteArray) (w : World) (hs : s.size ≤ 1000000) (h : rightL s.data.toList = false) :
    Calls Try.prog 9 #[.string s] w fun e w' => e = .returned (.tuple #[.string ⟨#[]⟩, .bool false]) ∧ Below w.heap.size w w' := by
  have hok := Ok.start w
  have hr := fun w => right_any s w hs
  rw [h] at hr
  have HR := hid hr
  clear hr h
  go_enter Try.func9, Try.ntmps9
  go_wp2_with (first | (go_at_call 11; refine (HR.out _).mono ?_; rintro e w' ⟨rfl, hb'⟩; replace hok := hok.step hb'; clear hb'))
  go_ret2
  exact ⟨rfl, hok.1⟩

theorem upp_any (s : ByteArray) (w : World) (hs : s.size ≤ 1000000) :
    Calls Try.prog 14 #[.string s] w fun e w' => e = .returned (.string ⟨(repl fU s.data.toList).toArray⟩) ∧ Below w.heap.size w w' := by
  have HP := hid (fun w => repup_any fU s w hs (fun W x c _ => up1_any x c W) (fun x c _ => Nat.le_refl 3))
  generalize (⟨(repl fU s.data.toList).toArray⟩ : ByteArray) = r at *
  go_enter Try.func14, Try.ntmps14
  go_wp2_with (first | (go_at_call 24; refine (HP.out _).mono ?_; rintro e w' ⟨rfl, hb'⟩))
  go_ret
  exact ⟨rfl, hb'⟩

theorem fS_len (cl : Int) (x : List UInt8) (c : UInt8) (h : x.length ≤ 3) : (fS cl false false x c).length ≤ 3 := by
  unfold fS; split
  · simp
  · split
    · exact Nat.le_refl 3
    · exact h

theorem som_any (s : ByteArray) (cl : Int) (w : World) (hs : s.size ≤ 1000000) :
    Calls Try.prog 15 #[.string s, .int .i64 cl] w fun e w' => e = .returned (.string ⟨(repl (fS cl false false) s.data.toList).toArray⟩) ∧ Below w.heap.size w w' := by
  have hc : (w.alloc (.cells #[.int .i64 cl] 3)).cell? ⟨w.heap.size, 0, none⟩ = some (.int .i64 cl) := by simp
  have HP := hid (repsome_any w.heap.size (fS cl false false) s (w.alloc (.cells #[.int .i64 cl] 3)) hs (fun W x c hb => some1_any x c w.heap.size cl W ((hb.cell (p := ⟨w.heap.size, 0, none⟩) (by simp)).trans hc)) (fun x c h => fS_len cl x c h))
  generalize (⟨(repl (fS cl false false) s.data.toList).toArray⟩ : ByteArray) = r at *
  clear hc
  go_enter Try.func15, Try.ntmps15
  go_wp2_with (first | (go_at_call 24; refine HP.out.mono ?_; rintro e w' ⟨rfl, hb'⟩))
  go_ret
  exact ⟨rfl, ((Below.refl _ w).alloc (Nat.le_refl _) _).trans (hb'.mono (by simp))⟩

theorem awake_any (w : World) : Calls Try.prog 7 #[] w fun e w' => e = .returned (.bool true) ∧ Below w.heap.size w w' := by
  have hok := Ok.start w
  have h1 := fun w => enc_any ⟨#[97, 32, 98]⟩ 7 w (by decide)
  have e1 : (⟨(encL 7 (ByteArray.mk #[97, 32, 98]).data.toList).toArray⟩ : ByteArray) = ⟨#[97, 37, 50, 48, 98]⟩ := by decide +kernel
  have h2 := fun w => som_any ⟨#[37, 52, 49, 37, 50, 102]⟩ 7 w (by decide)
  have e2 : (⟨(repl (fS 7 false false) (ByteArray.mk #[37, 52, 49, 37, 50, 102]).data.toList).toArray⟩ : ByteArray) = ⟨#[65, 37, 50, 102]⟩ := by decide +kernel
  have h3 := fun w => of_any 255 w
  have e3 : (⟨(ofU 255).toArray⟩ : ByteArray) = ⟨#[37, 70, 70]⟩ := by decide +kernel
  have e4 : ((255 : UInt8).toNat : Int) = 255 := rfl
  rw [e1] at h1
  rw [e2] at h2
  rw [e3, e4] at h3
  have H1 := hid h1
  have H2 := hid h2
  have H3 := hid h3
  clear h1 h2 h3 e1 e2 e3 e4
  go_enter Try.func7, Try.ntmps7
  go_wp2_with (first | (go_at_call 8; refine (H1.out _).mono ?_; rintro e w' ⟨rfl, hb'⟩; replace hok := hok.step hb'; clear hb') | (go_at_call 15; refine (H2.out _).mono ?_; rintro e w' ⟨rfl, hb'⟩; replace hok := hok.step hb'; clear hb') | (go_at_call 16; refine (H3.out _).mono ?_; rintro e w' ⟨rfl, hb'⟩; replace hok := hok.step hb'; clear hb'))
  go_ret
  exact ⟨rfl, hok.1⟩
end Go.Proofs.Ythdchapieninbaa
