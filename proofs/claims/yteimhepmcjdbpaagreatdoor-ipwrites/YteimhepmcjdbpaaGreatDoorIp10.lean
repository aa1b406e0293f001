import Derived.Test.YteimhepmcjdbpaaGreatDoorIp9
namespace Go.Proofs.YteimhepmcjdbpaaGreatDoor
open Go.RowKit
namespace Ip

theorem woL_list (q : Bool) : ∀ (ps : List (List UInt8)) (ws : List Int), reP q ps = some ws → ∀ x ∈ ws, 0 ≤ x ∧ x ≤ 65535 := by
  intro ps
  induction ps with
  | nil => intro ws h; cases h; intro x hx; cases hx
  | cons p ps ih =>
    intro ws h
    rw [reP] at h
    split at h
    · rename_i hp
      cases hq : reP q ps with
      | none => rw [hq] at h; cases h
      | some vs =>
        rw [hq] at h
        cases h
        intro x hx
        rcases List.mem_cons.1 hx with rfl | hx
        · exact ⟨hp, (woL_bd p).2⟩
        · exact ih vs hq x hx
    · split at h
      · cases h
        obtain ⟨a, b, c, d, k, e, h0, h1, h2, h3, h4, h5, h6, h7⟩ := v4L_bd p
        rw [e]
        intro x hx
        simp only [pkL, List.mem_cons, List.not_mem_nil, or_false] at hx
        rcases hx with rfl | rfl <;> omega
      · cases h

theorem reL_bd (q : Bool) (l : List UInt8) (ws : List Int) (h : reL q l = some ws) : ws.length ≤ 8 ∧ ∀ x ∈ ws, 0 ≤ x ∧ x ≤ 65535 := by
  refine ⟨reL_le q l ws h, ?_⟩
  unfold reL at h
  split at h
  · cases h; intro x hx; cases hx
  · unfold reS at h
    cases hp : reP q (paL 58 l) with
    | none => rw [hp] at h; cases h
    | some vs =>
      rw [hp] at h
      simp only [List.nil_append] at h
      split at h
      · cases h; exact woL_list q _ _ hp
      · cases h

theorem v6L_bd (l : List UInt8) : (v6L l).1.length = 8 ∧ ∀ x ∈ (v6L l).1, 0 ≤ x ∧ x ≤ 65535 := by
  have hz : z8.length = 8 ∧ ∀ x ∈ z8, 0 ≤ x ∧ x ≤ 65535 := ⟨rfl, by intro x hx; simp [z8] at hx; omega⟩
  unfold v6L
  split
  · cases h : reL true l with
    | none => exact hz
    | some ws =>
      simp only
      split
      · exact ⟨‹_›, (reL_bd true l ws h).2⟩
      · exact hz
  · cases h : reL false (cuG [58, 58] l).1 with
    | none => exact hz
    | some hs =>
      cases h2 : reL true (cuG [58, 58] l).2.1 with
      | none => exact hz
      | some ts =>
        simp only
        split
        · refine ⟨by simp; omega, ?_⟩
          intro x hx
          simp only [List.mem_append, List.mem_replicate] at hx
          rcases hx with (hx | hx) | hx
          · exact (reL_bd false _ hs h).2 x hx
          · omega
          · exact (reL_bd true _ ts h2).2 x hx
        · exact hz
theorem v6L_eight (l : List UInt8) : ∃ a0 a1 a2 a3 a4 a5 a6 a7 k, v6L l = ([a0, a1, a2, a3, a4, a5, a6, a7], k) := by
  obtain ⟨a0, a1, a2, a3, a4, a5, a6, a7, h⟩ := eight (v6L_bd l).1
  exact ⟨a0, a1, a2, a3, a4, a5, a6, a7, (v6L l).2, by rw [← h]⟩

/-- Is a host a literal? -/
def liB (l : List UInt8) : Bool := (preB 91 l).2 && (sufB 93 (preB 91 l).1).2 && ((v6L (sufB 93 (preB 91 l).1).1).2 || fuB (sufB 93 (preB 91 l).1).1)
def hoI (iri : Bool) (l : List UInt8) : Int := if liB l = true then 3 else if (v4L l).2 = true then 1 else if Le.spL 2 iri l = l.length then 2 else 0

theorem preB_len (c : UInt8) (l : List UInt8) : (preB c l).1.length ≤ l.length := by
  unfold preB
  cases l with
  | nil => exact Nat.le_refl _
  | cons a t => simp only; split <;> simp
theorem sufB_len (c : UInt8) (l : List UInt8) : (sufB c l).1.length ≤ l.length := by
  unfold sufB; split
  · simp
  · exact Nat.le_refl _

set_option maxHeartbeats 4000000 in
theorem lit_any (s : ByteArray) (w : World) (hs : s.size ≤ 1000) (hg : Gl w) :
    Calls Tryz.prog 30 #[.string s] w fun e w' => e = .returned (.bool (liB s.data.toList)) ∧ Below w.heap.size w w' := by
  have hok := Ok.start w
  have HG := hid hg
  clear hg
  have H1 := hid (fun w => pre_any s 91 w hs)
  have hl1 := preB_len 91 s.data.toList
  rw [len_size] at hl1
  have er : ∀ l : List UInt8, (ByteArray.mk l.toArray).data.toList = l := fun l => by simp
  have ez : ∀ l : List UInt8, (ByteArray.mk l.toArray).size = l.length := fun l => by rw [← len_size, er]
  unfold liB
  generalize (preB 91 s.data.toList).2 = k1 at *
  generalize (preB 91 s.data.toList).1 = t at *
  have H2 := hid (fun w => suf_any ⟨t.toArray⟩ 93 w (by rw [ez]; omega))
  have hl2 := sufB_len 93 t
  rw [er] at H2
  generalize (sufB 93 t).2 = k2 at *
  generalize (sufB 93 t).1 = m at *
  have H3 := hid (fun W (h : Below w.heap.size w W) => v6_any ⟨m.toArray⟩ W (by rw [ez]; omega) (HG.out.step h))
  have H4 := hid (fun W (h : Below w.heap.size w W) => fut_any ⟨m.toArray⟩ W (by rw [ez]; omega) (HG.out.step h))
  obtain ⟨a0, a1, a2, a3, a4, a5, a6, a7, k3, e3⟩ := v6L_eight m
  have H5 : Hid (∀ W, Below w.heap.size w W → Calls Tryz.prog 8 #[.string ⟨m.toArray⟩] W fun e w' => e = .returned (.tuple #[.agg #[.int .u16 a0, .int .u16 a1, .int .u16 a2, .int .u16 a3, .int .u16 a4, .int .u16 a5, .int .u16 a6, .int .u16 a7], .bool k3]) ∧ Below W.heap.size W w') := by
    have h := H3
    rw [er, e3] at h
    exact h
  rw [er] at H4
  rw [e3]
  clear H3 hl1 hl2 er ez e3
  generalize (ByteArray.mk t.toArray) = tt at *
  generalize (ByteArray.mk m.toArray) = mm at *
  generalize fuB m = k4 at *
  cases k1
  · go_enter Tryz.func30, Tryz.ntmps30
    go_wp2_with fail
    refine (H1.out _).mono ?_
    rintro e w' ⟨rfl, rfl⟩
    go_wp2_with fail
    go_ret
    exact ⟨rfl, hok.1⟩
  cases k2
  · go_enter Tryz.func30, Tryz.ntmps30
    go_wp2_with fail
    refine (H1.out _).mono ?_
    rintro e w' ⟨rfl, rfl⟩
    go_wp2_with fail
    refine (H2.out _).mono ?_
    rintro e w' ⟨rfl, rfl⟩
    go_wp2_with fail
    go_ret
    exact ⟨rfl, hok.1⟩
  cases k3
  · go_enter Tryz.func30, Tryz.ntmps30
    go_wp2_with fail
    refine (H1.out _).mono ?_
    rintro e w' ⟨rfl, rfl⟩
    go_wp2_with fail
    refine (H2.out _).mono ?_
    rintro e w' ⟨rfl, rfl⟩
    go_wp2_with fail
    refine (H5.out _ hok.1).mono ?_
    rintro e w2 ⟨rfl, hb⟩
    have hok2 := (hok.step hb).alloc (o := .cells #[.int .u16 a0, .int .u16 a1, .int .u16 a2, .int .u16 a3, .int .u16 a4, .int .u16 a5, .int .u16 a6, .int .u16 a7] 27)
    have HO := hid hok2
    clear hb hok hok2
    go_upto_region 8 with fail
    generalize w2.alloc (.cells #[.int .u16 a0, .int .u16 a1, .int .u16 a2, .int .u16 a3, .int .u16 a4, .int .u16 a5, .int .u16 a6, .int .u16 a7] 27) = w3 at *
    go_wp2_with fail
    refine (H4.out _ HO.out.1).mono ?_
    rintro e w4 ⟨rfl, hb⟩
    have HO2 := hid (HO.out.step hb)
    clear hb
    go_wp2_with fail
    go_ret
    exact ⟨rfl, HO2.out.1⟩
  · go_enter Tryz.func30, Tryz.ntmps30
    go_wp2_with fail
    refine (H1.out _).mono ?_
    rintro e w' ⟨rfl, rfl⟩
    go_wp2_with fail
    refine (H2.out _).mono ?_
    rintro e w' ⟨rfl, rfl⟩
    go_wp2_with fail
    refine (H5.out _ hok.1).mono ?_
    rintro e w2 ⟨rfl, hb⟩
    have hok2 := (hok.step hb).alloc (o := .cells #[.int .u16 a0, .int .u16 a1, .int .u16 a2, .int .u16 a3, .int .u16 a4, .int .u16 a5, .int .u16 a6, .int .u16 a7] 27)
    have HO := hid hok2
    clear hb hok hok2
    go_upto_region 8 with fail
    generalize w2.alloc (.cells #[.int .u16 a0, .int .u16 a1, .int .u16 a2, .int .u16 a3, .int .u16 a4, .int .u16 a5, .int .u16 a6, .int .u16 a7] 27) = w3 at *
    go_wp2_with fail
    go_ret
    exact ⟨rfl, HO.out.1⟩

set_option maxHeartbeats 4000000 in
theorem host_any (iri : Bool) (s : ByteArray) (w : World) (hs : s.size ≤ 1000) (hg : Gl w) :
    Calls Tryz.prog 13 #[.bool iri, .string s] w fun e w' => e = .returned (.int .i64 (hoI iri s.data.toList)) ∧ Below w.heap.size w w' := by
  have hok := Ok.start w
  have HG := hid hg
  have H1 := hid (fun W (h : Below w.heap.size w W) => v4_any s W hs (HG.out.step h))
  have H2 := hid (fun W (h : Below w.heap.size w W) => lit_any s W hs (HG.out.step h))
  have H3 := hid (fun W => Le.all_any 2 iri s W (by unfold maxLen; omega))
  clear hg
  obtain ⟨a, b, c, d, k, e4, _⟩ := v4L_bd s.data.toList
  have H5 : Hid (∀ W, Below w.heap.size w W → Calls Tryz.prog 7 #[.string s] W fun e w' => e = .returned (.tuple #[.agg #[.int .u8 a, .int .u8 b, .int .u8 c, .int .u8 d], .bool k]) ∧ Below W.heap.size W w') := by
    have h := H1
    rw [e4] at h
    exact h
  have HR : Hid (hoI iri s.data.toList = if liB s.data.toList = true then 3 else if k = true then 1 else if ((Le.spL 2 iri s.data.toList : Int) == (s.size : Int)) = true then 2 else 0) := by
    show _ = _
    unfold hoI
    rw [e4, len_size]
    congr 2
    by_cases h : Le.spL 2 iri s.data.toList = s.size
    · rw [if_pos h, if_pos (by rw [beq_iff_eq]; omega)]
    · rw [if_neg h, if_neg (by rw [beq_iff_eq]; omega)]
  clear H1 e4
  generalize hoI iri s.data.toList = r at *
  generalize liB s.data.toList = k1 at *
  generalize ((Le.spL 2 iri s.data.toList : Int) == (s.size : Int)) = k3 at *
  go_enter Tryz.func13, Tryz.ntmps13
  go_wp2_with fail
  refine (H5.out _ hok.1).mono ?_
  rintro e w2 ⟨rfl, hb⟩
  have hok2 := (hok.step hb).alloc (o := .cells #[.int .u8 a, .int .u8 b, .int .u8 c, .int .u8 d] 23)
  have HO := hid hok2
  clear hb hok hok2
  go_upto_region 2 with fail
  generalize w2.alloc (.cells #[.int .u8 a, .int .u8 b, .int .u8 c, .int .u8 d] 23) = w3 at *
  go_wp2_with fail
  refine (H2.out _ HO.out.1).mono ?_
  rintro e w4 ⟨rfl, hb⟩
  have hok := HO.out.step hb
  clear hb
  cases k1
  · cases k
    · go_wp2_with fail
      refine (H3.out _).mono ?_
      rintro e w' ⟨rfl, hb'⟩
      replace hok := hok.step hb'
      clear hb'
      cases k3
      · go_wp2_with fail
        go_ret
        exact ⟨ret_int HR.out.symm, hok.1⟩
      · go_wp2_with fail
        go_ret
        exact ⟨ret_int HR.out.symm, hok.1⟩
    · go_wp2_with fail
      go_ret
      exact ⟨ret_int HR.out.symm, hok.1⟩
  · go_wp2_with fail
    go_ret
    exact ⟨ret_int HR.out.symm, hok.1⟩
end Ip
end Go.Proofs.YteimhepmcjdbpaaGreatDoor
