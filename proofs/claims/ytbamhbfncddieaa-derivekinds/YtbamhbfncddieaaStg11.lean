import Derived.Test.YtbamhbfncddieaaStg10
namespace Go.Proofs.Ytbamhbfncddieaa.Uc
open Go.RowKit

def getV (other : Tr) (l : List (SRow Tr)) (r : Int) : Tr := if r < 0 ∨ 1114111 < r then other else at' other l r

/-- What Get hands back lies in a variable of its own. -/
def box0 : Obj := .cells #[.int .i64 0, .int .i64 0, .int .i64 0, .int .i64 0, .int .i64 0] 60

section
variable {w : World} {p : Nat} {l : List (SRow Tr)} {other : Tr} {f : Nat → Value} {vals : List Tr} {nr : List (SRow Nat)} {bl : List (List Nat)} {pl : List Nat}

theorem TabP.value (h : TabP w p l other f vals nr bl pl) (n : Nat) (x : Tr) (hn : vals[n]? = some x) : ∃ g cap, w.cell? ⟨p, 0, none⟩ = some (.slice (some ⟨g, 0, none⟩) vals.length cap) ∧ n < vals.length ∧ g < w.heap.size ∧ At5 w g (n * 5) x := by
  obtain ⟨hlt, hx⟩ := List.getElem?_eq_some_iff.1 hn
  obtain ⟨B, ho⟩ := h.own
  have hrow := h.row.cell (i := 0) (by omega)
  obtain ⟨ao, cap, e, hc⟩ := ho.open
  obtain ⟨g, rfl, hg, h2⟩ := hc n hlt
  exact ⟨g, cap, by rw [hrow, e], hlt, hg, by rw [← hx]; exact h2⟩

/-- Five stores into that variable. -/
def put5 (W : World) (b : Nat) (x : Tr) : World := ((((W.setCell ⟨b, 0, none⟩ (.int .i64 x.a)).setCell ⟨b, 1, none⟩ (.int .i64 x.b)).setCell ⟨b, 2, none⟩ (.int .i64 x.c)).setCell ⟨b, 3, none⟩ (.int .i64 x.d)).setCell ⟨b, 4, none⟩ (.int .i64 x.e)
theorem put5_block {W : World} {b : Nat} {x : Tr} (h : W.heap[b]? = some box0) : (put5 W b x).heap[b]? = some (boxT x) := by
  unfold put5 boxT
  unfold box0 at h
  simp [World.setCell, Array.getElem?_modify, h]
theorem put5_below {B : Nat} {u W : World} {b : Nat} {x : Tr} (h : Below B u W) (hb : B ≤ b) : Below B u (put5 W b x) :=
  ((((h.setCell (p := ⟨b, 0, none⟩) hb _).setCell (p := ⟨b, 1, none⟩) hb _).setCell (p := ⟨b, 2, none⟩) hb _).setCell (p := ⟨b, 3, none⟩) hb _).setCell (p := ⟨b, 4, none⟩) hb _
theorem box0_cells {W : World} {b : Nat} (h : W.heap[b]? = some box0) : (W.cell? ⟨b, 0, none⟩ = some (.int .i64 0) ∧ W.cell? ⟨b, 1, none⟩ = some (.int .i64 0) ∧ W.cell? ⟨b, 2, none⟩ = some (.int .i64 0) ∧ W.cell? ⟨b, 3, none⟩ = some (.int .i64 0) ∧ W.cell? ⟨b, 4, none⟩ = some (.int .i64 0)) ∧ (∀ o, W.frozen? ⟨b, o, none⟩ = false) := by
  unfold box0 at h
  simp [World.cell?, World.frozen?, h]

theorem get_end {W : World} {b : Nat} {x : Tr} {fn : Func} {q : Tmp} {tmps : Array Value} (h : fn.results = #[.cell q 60]) (hp : tmps.getD q undef = .pointer (some ⟨b, 0, none⟩)) (hb : W.heap[b]? = some box0) : (results fn tmps).run Try.prog (put5 W b x) = .ok (trv x) (put5 W b x) :=
  results_cell_row h tmps _ b 60 _ (0, 0) _ hp (put5_block hb) Try.underlying60 rfl (by kernel_rfl)

/-- What Get's region reads. -/
def S5 (p g n cap k : Nat) (x : Tr) (w' : World) : Prop :=
  w'.cell? ⟨p, 0, none⟩ = some (.slice (some ⟨g, 0, none⟩) k cap) ∧ w'.cell? ⟨g, n * 5, none⟩ = some (.int .i64 x.a) ∧ w'.cell? ⟨g, n * 5 + 1, none⟩ = some (.int .i64 x.b) ∧ w'.cell? ⟨g, n * 5 + 2, none⟩ = some (.int .i64 x.c) ∧ w'.cell? ⟨g, n * 5 + 3, none⟩ = some (.int .i64 x.d) ∧ w'.cell? ⟨g, n * 5 + 4, none⟩ = some (.int .i64 x.e)
def After5 (p g n lb cap k : Nat) (x : Tr) (w w2 : World) : Prop :=
  S5 p g n cap k x w2 ∧ ((w2.cell? ⟨lb, 0, none⟩ = some (.int .i64 0) ∧ w2.cell? ⟨lb, 1, none⟩ = some (.int .i64 0) ∧ w2.cell? ⟨lb, 2, none⟩ = some (.int .i64 0) ∧ w2.cell? ⟨lb, 3, none⟩ = some (.int .i64 0) ∧ w2.cell? ⟨lb, 4, none⟩ = some (.int .i64 0)) ∧ (∀ o, w2.frozen? ⟨lb, o, none⟩ = false)) ∧
    S5 p g n cap k x (put5 w2 lb x) ∧ w2.heap[lb]? = some box0 ∧ Below lb w w2

set_option maxHeartbeats 400000 in
set_option maxRecDepth 100000 in
theorem get_p (h : TabP w p l other f vals nr bl pl) (r : Int) :
    Calls Try.prog 41 #[.pointer (some ⟨p, 0, none⟩), .int .i32 r] w fun e w' => e = .returned (trv (getV other l r)) ∧ Below w.heap.size w w' := by
  have hb0 : Below w.heap.size w (w.alloc box0) := (Below.refl _ _).alloc (Nat.le_refl _) _
  have hT := h.step hb0
  have hnew : (w.alloc box0).heap[w.heap.size]? = some box0 := heap_alloc_new w _
  have hpw := h.row.lt
  by_cases hr : r < 0 ∨ 1114111 < r
  · have H : Hid (getV other l r = other) := if_pos hr
    obtain ⟨g, cap, c0, hlt, hg, d0, g1, g2, g3, g4⟩ := hT.value 0 other hT.numd.head
    have hlt' : (0 : Int) < (vals.length : Int) := by omega
    obtain ⟨⟨z0, z1, z2, z3, z4⟩, zf⟩ := box0_cells hnew
    have f0 := zf 0
    have f1 := zf 1
    have f2 := zf 2
    have f3 := zf 3
    have f4 := zf 4
    have HB0 := hid hb0
    have HN := hid hnew
    clear h hT zf hnew hb0 hg
    simp only [Nat.zero_mul, Nat.zero_add] at d0 g1 g2 g3 g4
    unfold box0 at *
    by_cases h0 : r < 0
    · go_enter Try.func41, Try.ntmps41
      go_wp2
      exact bodyPost_ret (v := trv other) (results_cell_row Try.results41 _ _ w.heap.size 60 _ (0, 0) _ rfl (heap_alloc_new w _) Try.underlying60 rfl (by kernel_rfl)) rfl ⟨by rw [H.out], (Below.refl _ _).alloc (Nat.le_refl _) _⟩
    · have h1 : (1114111 : Int) < r := by omega
      clear hr
      go_enter Try.func41, Try.ntmps41
      go_wp2
      exact bodyPost_ret (v := trv other) (results_cell_row Try.results41 _ _ w.heap.size 60 _ (0, 0) _ rfl (heap_alloc_new w _) Try.underlying60 rfl (by kernel_rfl)) rfl ⟨by rw [H.out], (Below.refl _ _).alloc (Nat.le_refl _) _⟩
  · have H : Hid (getV other l r = at' other l r) := if_neg hr
    have h0 : ¬ r < 0 := by omega
    have h1 : ¬ (1114111 : Int) < r := by omega
    obtain ⟨g, cap, c0', hlt, hg, ha5⟩ := h.value _ _ (h.num r)
    have c0 := (hb0.cell (p := ⟨p, 0, none⟩) hpw).trans c0'
    obtain ⟨a0, g1, g2, g3, g4⟩ := ha5.of_block (hb0.block g hg)
    have a1 : (w.alloc box0).cell? ⟨g, at' 0 nr r * 5 + 1, none⟩ = some _ := g1
    have a2 : (w.alloc box0).cell? ⟨g, at' 0 nr r * 5 + 2, none⟩ = some _ := g2
    have a3 : (w.alloc box0).cell? ⟨g, at' 0 nr r * 5 + 3, none⟩ = some _ := g3
    have a4 : (w.alloc box0).cell? ⟨g, at' 0 nr r * 5 + 4, none⟩ = some _ := g4
    have HA := hid (at_any (hT.step (w' := (w.alloc box0).drew) (Below.refl _ _).drew) r (by omega) (by omega))
    obtain ⟨⟨z0, z1, z2, z3, z4⟩, zf⟩ := box0_cells hnew
    have f0 := zf 0
    have f1 := zf 1
    have f2 := zf 2
    have f3 := zf 3
    have f4 := zf 4
    have HB0 := hid hb0
    have HN := hid hnew
    have hgb : ¬ g = w.heap.size := by omega
    have hpb : ¬ p = w.heap.size := by omega
    clear h hT hr hnew hb0 ha5 hg c0' g1 g2 g3 g4 zf hpw
    generalize at' 0 nr r = n at *
    generalize at' other l r = x at *
    have b1 : (0 : Int) ≤ n ∧ (n : Int) < (vals.length : Int) := by omega
    go_enter Try.func41, Try.ntmps41
    go_wp2_with fail
    have eb : w.alloc (.cells #[.int .i64 0, .int .i64 0, .int .i64 0, .int .i64 0, .int .i64 0] 60) = w.alloc box0 := rfl
    rw [eb]
    clear eb
    generalize w.alloc box0 = W1 at *
    generalize hlbe : w.heap.size = lb at *
    have HLE := hid hlbe
    clear hlbe
    have HAft : Hid (∀ (w2 : World) (m : Nat), w2 = W1.drew.drewN m → After5 p g n lb cap vals.length x w w2) := fun w2 m hw => by
      have hh : w2.heap = W1.heap := by rw [hw]; rfl
      have hcl : ∀ a, w2.cell? a = W1.cell? a := fun a => World.cell?_of_block (by rw [hh])
      have hfz : ∀ a, w2.frozen? a = W1.frozen? a := fun a => World.frozen?_of_block (by rw [hh])
      have hbx : w2.heap[lb]? = some box0 := by rw [hh]; exact HN.out
      have hb2 : Below lb w w2 := by rw [hw]; exact below_drewN HB0.out.drew m
      refine ⟨⟨by rw [hcl]; exact c0, by rw [hcl]; exact a0, by rw [hcl]; exact a1, by rw [hcl]; exact a2, by rw [hcl]; exact a3, by rw [hcl]; exact a4⟩, box0_cells hbx, ?_, hbx, hb2⟩
      have hk : ∀ (b o : Nat), ¬ b = lb → (put5 w2 lb x).cell? ⟨b, o, none⟩ = W1.cell? ⟨b, o, none⟩ := fun b o hb => by
        unfold put5
        rw [World.cell?_setCell_other _ _ _ _ (fun e => hb (congrArg Addr.block e).symm), World.cell?_setCell_other _ _ _ _ (fun e => hb (congrArg Addr.block e).symm), World.cell?_setCell_other _ _ _ _ (fun e => hb (congrArg Addr.block e).symm), World.cell?_setCell_other _ _ _ _ (fun e => hb (congrArg Addr.block e).symm), World.cell?_setCell_other _ _ _ _ (fun e => hb (congrArg Addr.block e).symm), hcl]
      exact ⟨by rw [hk _ _ hpb]; exact c0, by rw [hk _ _ hgb]; exact a0, by rw [hk _ _ hgb]; exact a1, by rw [hk _ _ hgb]; exact a2, by rw [hk _ _ hgb]; exact a3, by rw [hk _ _ hgb]; exact a4⟩
    clear z0 z1 z2 z3 z4 f0 f1 f2 f3 f4 HN HB0
    refine wp_region_held_drew (S := S5 p g n cap vals.length x) (by kernel_rfl) ⟨c0, a0, a1, a2, a3, a4⟩ (fun hS => ?_)
    refine wpAnyH_take (i := 0) (v := .pointer (some ⟨p, 0, none⟩)) rfl (by kernel_rfl) (by kernel_rfl) (by kernel_rfl) (fun _ _ _ h => h) (Or.inl ⟨by rfl, by (intro w _; go_simp)⟩) (by assumption) ?_
    refine wpAnyH_take (i := 1) (v := .pointer (some ⟨p, 0, none⟩)) rfl (by kernel_rfl) (by kernel_rfl) (by kernel_rfl) (fun _ _ _ h => h) (Or.inl ⟨by rfl, by (intro w _; go_simp)⟩) (by assumption) ?_
    refine wpAnyH_take (i := 2) (v := .pointer (some ⟨p, 0, none⟩)) rfl (by kernel_rfl) (by kernel_rfl) (by kernel_rfl) (fun _ _ _ h => h) (Or.inl ⟨by rfl, by (intro w _; go_simp)⟩) (by assumption) ?_
    refine wpAnyH_take (i := 3) (v := .slice (some ⟨g, 0, none⟩) vals.length cap) rfl (by kernel_rfl) (by kernel_rfl) (by kernel_rfl) (fun _ _ _ h => h) (Or.inl ⟨by rfl, by (intro w hw; obtain ⟨q0, _⟩ := hw; go_simp)⟩) (by assumption) ?_
    refine wpAnyH_take (i := 4) (v := .pointer (some ⟨p, 0, none⟩)) rfl (by kernel_rfl) (by kernel_rfl) (by kernel_rfl) (fun _ _ _ h => h) (Or.inl ⟨by rfl, by (intro w _; go_simp)⟩) (by assumption) ?_
    refine wpAnyH_take (i := 5) (v := .int .i32 r) rfl (by kernel_rfl) (by kernel_rfl) (by kernel_rfl) (fun _ _ _ h => h) (Or.inl ⟨by rfl, by (intro w _; go_simp)⟩) (by assumption) ?_
    refine wpAnyH_ready (rs := [6]) (by kernel_rfl) (by simp) ?_
    refine AllReadyH.cons rfl (fun K hK => ?_) AllReadyH.nil
    clear hS
    go_simp
    go_wp2_with fail
    refine HA.out.mono ?_
    rintro e w2 ⟨rfl, m, hw2⟩
    obtain ⟨hS2, ⟨⟨z0, z1, z2, z3, z4⟩, zf⟩, hsx, hbx, hb2⟩ := HAft.out w2 m hw2
    have f0 := zf 0
    have f1 := zf 1
    have f2 := zf 2
    have f3 := zf 3
    have f4 := zf 4
    have HSX := hid hsx
    have HBX := hid hbx
    have HB2 := hid hb2
    clear hw2 hsx hbx hb2 zf HA HAft c0 a0 a1 a2 a3 a4
    refine hK.out _ _ hS2 (fun hS => ?_)
    clear hK K
    refine wpAnyH_take (i := 7) (v := .pointer (some ⟨g, n * 5, none⟩)) rfl (by kernel_rfl) (by kernel_rfl) (by kernel_rfl) (fun _ _ _ h => h) (Or.inl ⟨by rfl, by (intro w _; go_simp)⟩) (by assumption) ?_
    refine wpAnyH_take (i := 8) (v := .agg #[.int .i64 x.a, .int .i64 x.b, .int .i64 x.c, .int .i64 x.d, .int .i64 x.e]) rfl (by kernel_rfl) (by kernel_rfl) (by kernel_rfl) (fun _ _ _ h => h) (Or.inl ⟨by rfl, by (intro w hw; obtain ⟨_, q0, q1, q2, q3, q4⟩ := hw; go_simp)⟩) (by assumption) ?_
    refine wpAnyH_ready (rs := [9]) (by kernel_rfl) (by simp) ?_
    refine AllReadyH.cons rfl (fun K hK => ?_) AllReadyH.nil
    clear hS hS2
    go_simp
    refine hK.out _ _ HSX.out (fun _ => ?_)
    clear hK K
    refine wpAnyH_done (by kernel_rfl) ?_ _
    go_wp2_with fail
    exact bodyPost_ret (v := trv x) (get_end Try.results41 rfl HBX.out) rfl ⟨by rw [H.out], put5_below (by rw [HLE.out]; exact HB2.out) (by rw [HLE.out]; exact Nat.le_refl _)⟩
end
end Go.Proofs.Ytbamhbfncddieaa.Uc
