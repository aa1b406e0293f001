import Derived.Test.YtbamhbfncddieaaRul2
namespace Go.Proofs.Ytbamhbfncddieaa
namespace Ru
open Go.RowKit Od

set_option maxRecDepth 100000 in
set_option maxHeartbeats 4000000 in
theorem joi1_any {W : World} {v b pv po g : Nat} {l : List Int} (hQ : Qs W v b pv po g l) (hl : l.length ≤ 1000) (x : Int) :
    Calls Try.prog 103 #[.int .i32 x, .pointer (some ⟨po, 0, none⟩), .pointer (some ⟨pv, 0, none⟩)] W fun e w' => e = .returned (.bool (decide (jnP x ∈ l))) ∧ Below W.heap.size W w' := by
  have HD : Hid (Ok W.heap.size W W.drew ∧ Qs W.drew v b pv po g l) := ⟨(Ok.start W).step ((Below.refl _ _).drew), hQ.step ((Below.refl _ _).drew)⟩
  have HC := hr (fun w (h : Vb w v b) => joi_any h.bk x)
  have HM := hr (fun (w : World) (y : Int) (h : Qs w v b pv po g l) => contains_any (ro_sl h.ro) (by omega) y)
  have hstep : Hid (∀ A B, (Ok W.heap.size W A ∧ Qs A v b pv po g l) → Below A.heap.size A B → (Ok W.heap.size W B ∧ Qs B v b pv po g l)) := fun A B h hb => ⟨h.1.step hb, h.2.step hb⟩
  have H0 := hr hQ
  clear hQ hl
  go_enter Try.func103, Try.ntmps103
  go_wp2_with fail
  go_region_held3 (fun w' => w'.cell? ⟨pv, 0, none⟩ = some (.pointer (some ⟨v, 0, none⟩)) ∧ w'.cell? ⟨po, 0, none⟩ = some (.slice (some ⟨g, 0, none⟩) l.length l.length) ∧ w'.cell? ⟨v, 0, none⟩ = some (.pointer (some ⟨b, 0, none⟩)))
    (first | exact HD.out.2.cells | exact H0.out.cells)
    (first | (go_at_call 104; refine (HC.out _ HD.out.2.vb).mono ?_; rintro e w' ⟨rfl, hb'⟩; replace HD := hr (hstep.out _ _ HD.out hb'); clear hb') | (go_at_call 83; refine (HM.out _ _ HD.out.2).mono ?_; rintro e w' ⟨rfl, rfl⟩))
  all_goals go_wp2_with fail
  all_goals go_ret
  all_goals exact ⟨rfl, HD.out.1.1⟩
theorem mkscr_any (v g n : Nat) (w : World) : Calls Try.prog 66 #[.pointer (some ⟨v, 0, none⟩), .slice (some ⟨g, 0, none⟩) n n] w fun e w' => e = .returned (.func (.func 82) #[] #[.pointer (some ⟨w.heap.size + 1, 0, none⟩), .pointer (some ⟨w.heap.size, 0, none⟩)]) ∧ w' = (w.alloc (.cells #[.pointer (some ⟨v, 0, none⟩)] 87)).alloc (.cells #[.slice (some ⟨g, 0, none⟩) n n] 37) := by
  go_enter Try.func66, Try.ntmps66
  go_wp2
  go_ret
  exact ⟨rfl, rfl⟩
theorem mkjoi_any (v g n : Nat) (w : World) : Calls Try.prog 85 #[.pointer (some ⟨v, 0, none⟩), .slice (some ⟨g, 0, none⟩) n n] w fun e w' => e = .returned (.func (.func 103) #[] #[.pointer (some ⟨w.heap.size + 1, 0, none⟩), .pointer (some ⟨w.heap.size, 0, none⟩)]) ∧ w' = (w.alloc (.cells #[.pointer (some ⟨v, 0, none⟩)] 87)).alloc (.cells #[.slice (some ⟨g, 0, none⟩) n n] 37) := by
  go_enter Try.func85, Try.ntmps85
  go_wp2
  go_ret
  exact ⟨rfl, rfl⟩
/-- Boxes made anew. -/
theorem qs_new {w : World} {v b : Nat} (h : Vb w v b) (l : List Int) (n : Nat) (hn : n = l.length) :
    Qs (((w.alloc (.cells (ivs .i64 l).toArray 3)).alloc (.cells #[.pointer (some ⟨v, 0, none⟩)] 87)).alloc (.cells #[.slice (some ⟨w.heap.size, 0, none⟩) n n] 37)) v b (w.heap.size + 1) (w.heap.size + 1 + 1) w.heap.size l ∧ Below w.heap.size w (((w.alloc (.cells (ivs .i64 l).toArray 3)).alloc (.cells #[.pointer (some ⟨v, 0, none⟩)] 87)).alloc (.cells #[.slice (some ⟨w.heap.size, 0, none⟩) n n] 37)) := by
  subst hn
  have s0 : (w.alloc (.cells (ivs .i64 l).toArray 3)).heap.size = w.heap.size + 1 := by simp
  have b1 : Below w.heap.size w (w.alloc (.cells (ivs .i64 l).toArray 3)) := (Below.refl _ _).alloc (Nat.le_refl _) _
  generalize hA : w.alloc (.cells (ivs .i64 l).toArray 3) = A at *
  have r1 : A.heap[w.heap.size]? = some (.cells (ivs .i64 l).toArray 3) := by rw [← hA]; exact heap_new w _
  have b2 : Below A.heap.size A (A.alloc (.cells #[.pointer (some ⟨v, 0, none⟩)] 87)) := (Below.refl _ _).alloc (Nat.le_refl _) _
  have x2 : Bx (A.alloc (.cells #[.pointer (some ⟨v, 0, none⟩)] 87)) A.heap.size (.pointer (some ⟨v, 0, none⟩)) 87 := Bx.new _ _ _
  have s1 : (A.alloc (.cells #[.pointer (some ⟨v, 0, none⟩)] 87)).heap.size = A.heap.size + 1 := by simp
  generalize A.alloc (.cells #[.pointer (some ⟨v, 0, none⟩)] 87) = C at *
  have b3 : Below C.heap.size C (C.alloc (.cells #[.slice (some ⟨w.heap.size, 0, none⟩) l.length l.length] 37)) := (Below.refl _ _).alloc (Nat.le_refl _) _
  have x3 : Bx (C.alloc (.cells #[.slice (some ⟨w.heap.size, 0, none⟩) l.length l.length] 37)) C.heap.size (.slice (some ⟨w.heap.size, 0, none⟩) l.length l.length) 37 := Bx.new _ _ _
  rw [s0] at x2
  rw [s1, s0] at x3
  refine ⟨⟨((h.step b1).step b2).step b3, x2.step b3, x3, ?_⟩, (b1.trans (b2.mono b1.size)).trans (b3.mono (Nat.le_trans b1.size b2.size))⟩
  have r2 := (b2.block w.heap.size (by omega)).trans r1
  exact (b3.block w.heap.size (by omega)).trans r2
theorem scr_new {w : World} {v b : Nat} (h : Vb w v b) (l : List Int) (n : Nat) (hn : n = l.length) (g : Nat) (hg : g = w.heap.size) :
    Calls Try.prog 66 #[.pointer (some ⟨v, 0, none⟩), .slice (some ⟨g, 0, none⟩) n n] (w.alloc (.cells (ivs .i64 l).toArray 3)) fun e w' => ∃ po pv, e = .returned (.func (.func 82) #[] #[.pointer (some ⟨po, 0, none⟩), .pointer (some ⟨pv, 0, none⟩)]) ∧ Qs w' v b pv po g l ∧ Below w.heap.size w w' := by
  subst hg
  refine (mkscr_any v _ n _).mono ?_
  rintro e w' ⟨rfl, rfl⟩
  have hq := qs_new h l n hn
  exact ⟨_, _, rfl, by simpa using hq.1, hq.2⟩
theorem joi_new {w : World} {v b : Nat} (h : Vb w v b) (l : List Int) (n : Nat) (hn : n = l.length) (g : Nat) (hg : g = w.heap.size) :
    Calls Try.prog 85 #[.pointer (some ⟨v, 0, none⟩), .slice (some ⟨g, 0, none⟩) n n] (w.alloc (.cells (ivs .i64 l).toArray 3)) fun e w' => ∃ po pv, e = .returned (.func (.func 103) #[] #[.pointer (some ⟨po, 0, none⟩), .pointer (some ⟨pv, 0, none⟩)]) ∧ Qs w' v b pv po g l ∧ Below w.heap.size w w' := by
  subst hg
  refine (mkjoi_any v _ n _).mono ?_
  rintro e w' ⟨rfl, rfl⟩
  have hq := qs_new h l n hn
  exact ⟨_, _, rfl, by simpa using hq.1, hq.2⟩
theorem ask_scr (v b pv po g : Nat) (l : List Int) (hl : l.length ≤ 1000) : Ask 82 #[] #[.pointer (some ⟨po, 0, none⟩), .pointer (some ⟨pv, 0, none⟩)] (fun x => decide (scP x ∈ l)) (fun W => Qs W v b pv po g l) :=
  ⟨enters_of Try.func82 (by kernel_rfl) rfl, fun _ x h => scr1_any h hl x, fun _ _ h hb => h.step hb⟩
theorem ask_joi (v b pv po g : Nat) (l : List Int) (hl : l.length ≤ 1000) : Ask 103 #[] #[.pointer (some ⟨po, 0, none⟩), .pointer (some ⟨pv, 0, none⟩)] (fun x => decide (jnP x ∈ l)) (fun W => Qs W v b pv po g l) :=
  ⟨enters_of Try.func103 (by kernel_rfl) rfl, fun _ x h => joi1_any h hl x, fun _ _ h hb => h.step hb⟩
set_option maxHeartbeats 1000000 in
theorem vir_any {W : World} {v b : Nat} (h : Vb W v b) (x : Int) : Calls Try.prog 71 #[.pointer (some ⟨v, 0, none⟩), .int .i32 x] W fun e w' => e = .returned (.bool (clsP x == 9)) ∧ Below W.heap.size W w' := by
  have HC := hr (cls_any h.bk x)
  have c0 := h.c0
  clear h
  go_enter Try.func71, Try.ntmps71
  go_wp2_with fail
  refine HC.out.mono ?_
  rintro e w1 ⟨rfl, hb⟩
  have HB := hr hb
  clear hb
  go_wp2_with fail
  go_ret
  exact ⟨rfl, HB.out⟩
theorem ask_vir (v b : Nat) : Ask 71 #[.pointer (some ⟨v, 0, none⟩)] #[] (fun x => clsP x == 9) (fun W => Vb W v b) :=
  ⟨enters_of Try.func71 (by kernel_rfl) rfl, fun _ x h => vir_any h x, fun _ _ h hb => h.step hb⟩
def arB (r : Int) : Bool := decide (1632 ≤ r ∧ r ≤ 1641)
def etB (r : Int) : Bool := decide (1776 ≤ r ∧ r ≤ 1785)
set_option maxHeartbeats 1000000 in
theorem ar_any (r : Int) (w : World) : Calls Try.prog 48 #[.int .i32 r] w fun e w' => e = .returned (.bool (arB r)) ∧ w' = w := by
  by_cases h1 : 1632 ≤ r
  · by_cases h2 : r ≤ 1641
    · have HE : Hid (arB r = true) := decide_eq_true ⟨h1, h2⟩
      go_enter Try.func48, Try.ntmps48
      go_wp2_with fail
      go_ret
      exact ⟨ret_bool HE.out.symm, rfl⟩
    · have HE : Hid (arB r = false) := decide_eq_false (fun h => h2 h.2)
      go_enter Try.func48, Try.ntmps48
      go_wp2_with fail
      go_ret
      exact ⟨ret_bool HE.out.symm, rfl⟩
  · have HE : Hid (arB r = false) := decide_eq_false (fun h => h1 h.1)
    go_enter Try.func48, Try.ntmps48
    go_wp2_with fail
    go_ret
    exact ⟨ret_bool HE.out.symm, rfl⟩
theorem ask_ar : Ask 48 #[] #[] arB (fun _ => True) :=
  ⟨enters_of Try.func48 (by kernel_rfl) rfl, fun W x _ => (ar_any x W).mono fun e w' h => ⟨h.1, by rw [h.2]; exact Below.refl _ _⟩, fun _ _ _ _ => trivial⟩
set_option maxHeartbeats 1000000 in
theorem et_any (r : Int) (w : World) : Calls Try.prog 49 #[.int .i32 r] w fun e w' => e = .returned (.bool (etB r)) ∧ w' = w := by
  by_cases h1 : 1776 ≤ r
  · by_cases h2 : r ≤ 1785
    · have HE : Hid (etB r = true) := decide_eq_true ⟨h1, h2⟩
      go_enter Try.func49, Try.ntmps49
      go_wp2_with fail
      go_ret
      exact ⟨ret_bool HE.out.symm, rfl⟩
    · have HE : Hid (etB r = false) := decide_eq_false (fun h => h2 h.2)
      go_enter Try.func49, Try.ntmps49
      go_wp2_with fail
      go_ret
      exact ⟨ret_bool HE.out.symm, rfl⟩
  · have HE : Hid (etB r = false) := decide_eq_false (fun h => h1 h.1)
    go_enter Try.func49, Try.ntmps49
    go_wp2_with fail
    go_ret
    exact ⟨ret_bool HE.out.symm, rfl⟩
theorem ask_et : Ask 49 #[] #[] etB (fun _ => True) :=
  ⟨enters_of Try.func49 (by kernel_rfl) rfl, fun W x _ => (et_any x W).mono fun e w' h => ⟨h.1, by rw [h.2]; exact Below.refl _ _⟩, fun _ _ _ _ => trivial⟩
set_option maxHeartbeats 1000000 in
theorem el_any (r : Int) (w : World) : Calls Try.prog 73 #[.int .i32 r] w fun e w' => e = .returned (.bool (r == 108)) ∧ w' = w := by
  go_enter Try.func73, Try.ntmps73
  go_wp2_with fail
  go_ret
  exact ⟨rfl, rfl⟩
theorem ask_el : Ask 73 #[] #[] (fun r => r == 108) (fun _ => True) :=
  ⟨enters_of Try.func73 (by kernel_rfl) rfl, fun W x _ => (el_any x W).mono fun e w' h => ⟨h.1, by rw [h.2]; exact Below.refl _ _⟩, fun _ _ _ _ => trivial⟩
theorem no_any (r : Int) (w : World) : Calls Try.prog 69 #[.int .i32 r] w fun e w' => e = .returned (.bool false) ∧ w' = w := by
  go_enter Try.func69, Try.ntmps69
  go_wp2_with fail
  go_ret
  exact ⟨rfl, rfl⟩
theorem ask_no : Ask 69 #[] #[] (fun _ => false) (fun _ => True) :=
  ⟨enters_of Try.func69 (by kernel_rfl) rfl, fun W x _ => (no_any x W).mono fun e w' h => ⟨h.1, by rw [h.2]; exact Below.refl _ _⟩, fun _ _ _ _ => trivial⟩

/-- A view in memory. -/
def Vk (w : World) (v : Nat) (c : Array Value) : Prop := w.heap[v]? = some (.cells c 112)
theorem Vk.lt {w : World} {v : Nat} {c : Array Value} (h : Vk w v c) : v < w.heap.size := (Array.getElem?_eq_some_iff.1 h).1
theorem Vk.cell {w : World} {v : Nat} {c : Array Value} (h : Vk w v c) (k : Nat) : w.cell? ⟨v, k, none⟩ = c[k]? := by
  have h' : w.heap[v]? = _ := h
  simp [World.cell?, h']
theorem Vk.frozen {w : World} {v : Nat} {c : Array Value} (h : Vk w v c) (k : Nat) : w.frozen? ⟨v, k, none⟩ = false := by
  have h' : w.heap[v]? = _ := h
  simp [World.frozen?, h']
theorem Vk.step {w w' : World} {v : Nat} {c : Array Value} (h : Vk w v c) (hb : Below w.heap.size w w') : Vk w' v c := (hb.block v h.lt).trans h
theorem Vk.set {w : World} {v : Nat} {c : Array Value} (h : Vk w v c) (k : Nat) (u : Value) : Vk (w.setCell ⟨v, k, none⟩ u) v (c.setIfInBounds k u) := by
  have h' : w.heap[v]? = _ := h
  simp [Vk, World.setCell, Array.getElem?_modify, h']
/-- A view, with its book and its label. -/
structure Vw (w : World) (v b : Nat) (ao : Option Addr) (n cap : Nat) (X : List Int) : Prop where
  bk : Bk w b
  blk : Vk w v #[.pointer (some ⟨b, 0, none⟩), .slice ao n cap, .bool (X.any fun x => decide (scP x ∈ [8, 9, 10])), .bool (X.any arB), .bool (X.any etB)]
  len : X.length = n
  sl : SlP .i32 w ao cap X
theorem Vw.step {w w' : World} {v b : Nat} {ao : Option Addr} {n cap : Nat} {X : List Int} (h : Vw w v b ao n cap X) (hb : Below w.heap.size w w') : Vw w' v b ao n cap X := ⟨h.bk.step hb, h.blk.step hb, h.len, h.sl.step hb⟩
theorem Vw.vb {w : World} {v b : Nat} {ao : Option Addr} {n cap : Nat} {X : List Int} (h : Vw w v b ao n cap X) : Vb w v b := ⟨h.bk, h.blk.lt, h.blk.cell 0⟩
set_option maxRecDepth 100000 in
set_option maxHeartbeats 4000000 in
theorem look_any {w : World} {b : Nat} (hB : Bk w b) {ao : Option Addr} {n cap : Nat} {X : List Int} (hX : X.length = n) (hS : SlP .i32 w ao cap X) (hn : n ≤ 1000000) :
    Calls Try.prog 42 #[.pointer (some ⟨b, 0, none⟩), .slice ao n cap] w fun e w' => ∃ v, e = .returned (.pointer (some ⟨v, 0, none⟩)) ∧ Vw w' v b ao n cap X ∧ Below w.heap.size w w' := by
  have HB := hr hB
  have HS := hr hS
  have HX := hr hX
  have hb0 : Below w.heap.size w (w.alloc (.cells #[.pointer (some ⟨b, 0, none⟩), .slice ao n cap, .bool false, .bool false, .bool false] 112)) := (Below.refl _ _).alloc (Nat.le_refl _) _
  have H0 : Hid (Vk (w.alloc (.cells #[.pointer (some ⟨b, 0, none⟩), .slice ao n cap, .bool false, .bool false, .bool false] 112)) w.heap.size #[.pointer (some ⟨b, 0, none⟩), .slice ao n cap, .bool false, .bool false, .bool false] ∧ Below w.heap.size w (w.alloc (.cells #[.pointer (some ⟨b, 0, none⟩), .slice ao n cap, .bool false, .bool false, .bool false] 112)) ∧ (w.alloc (.cells #[.pointer (some ⟨b, 0, none⟩), .slice ao n cap, .bool false, .bool false, .bool false] 112)).heap.size = w.heap.size + 1) := ⟨heap_new w _, hb0, by simp⟩
  clear hB hS hX hb0
  have HSc := hr (fun (A : World) (h : Vb A w.heap.size b) (e : A.heap.size = w.heap.size + 1) => scr_new h [8, 9, 10] 3 rfl (w.heap.size + 1) e.symm)
  have HCt := hr (fun (W : World) (g : Nat) (pa cb : Array Value) (q : Int → Bool) (G : World → Prop) (hA : Ask g pa cb q G) (hG : G W) (hw : Below w.heap.size w W) => contf_any W ao n cap hA X HX.out (HS.out.step hw) hG hn)
  go_enter Try.func42, Try.ntmps42
  go_wp2_with fail
  generalize w.alloc (.cells #[.pointer (some ⟨b, 0, none⟩), .slice ao n cap, .bool false, .bool false, .bool false] 112) = A at *
  refine (HSc.out A ⟨HB.out.step H0.out.2.1, H0.out.1.lt, H0.out.1.cell 0⟩ H0.out.2.2).mono ?_
  rintro e w1 ⟨po, pv, rfl, hQ, hb1⟩
  have H1 : Hid (Qs w1 w.heap.size b pv po (w.heap.size + 1) [8, 9, 10] ∧ Vk w1 w.heap.size #[.pointer (some ⟨b, 0, none⟩), .slice ao n cap, .bool false, .bool false, .bool false] ∧ Below w.heap.size w w1) := ⟨hQ, H0.out.1.step hb1, H0.out.2.1.trans (hb1.mono H0.out.2.1.size)⟩
  clear hQ hb1 HSc H0
  go_wp2_with fail
  refine (HCt.out w1 _ _ _ _ _ (ask_scr w.heap.size b pv po (w.heap.size + 1) [8, 9, 10] (by simp)) H1.out.1 H1.out.2.2).mono ?_
  rintro e w2 ⟨rfl, hb2⟩
  have HK : Hid (Vk w2 w.heap.size #[.pointer (some ⟨b, 0, none⟩), .slice ao n cap, .bool false, .bool false, .bool false] ∧ Below w.heap.size w w2) := ⟨H1.out.2.1.step hb2, H1.out.2.2.trans (hb2.mono H1.out.2.2.size)⟩
  clear H1 hb2
  generalize hk1 : (X.any fun x => decide (scP x ∈ [8, 9, 10])) = q1 at *
  have HK1 := hr hk1
  clear hk1
  have hf := HK.out.1.frozen 2
  have hc : w2.cell? ⟨w.heap.size, 2, none⟩ = some (.bool false) := HK.out.1.cell 2
  have HK2 : Hid (Vk (w2.setCell ⟨w.heap.size, 2, none⟩ (.bool q1)) w.heap.size #[.pointer (some ⟨b, 0, none⟩), .slice ao n cap, .bool q1, .bool false, .bool false] ∧ Below w.heap.size w (w2.setCell ⟨w.heap.size, 2, none⟩ (.bool q1))) := ⟨HK.out.1.set 2 _, HK.out.2.setCell (Nat.le_refl _) _⟩
  clear HK
  go_wp2_with fail
  generalize w2.setCell ⟨w.heap.size, 2, none⟩ (.bool q1) = w3 at *
  refine (HCt.out w3 _ _ _ _ _ ask_ar trivial HK2.out.2).mono ?_
  rintro e w4 ⟨rfl, hb4⟩
  have HK : Hid (Vk w4 w.heap.size #[.pointer (some ⟨b, 0, none⟩), .slice ao n cap, .bool q1, .bool false, .bool false] ∧ Below w.heap.size w w4) := ⟨HK2.out.1.step hb4, HK2.out.2.trans (hb4.mono HK2.out.2.size)⟩
  clear HK2 hb4 hf hc
  generalize hk2 : X.any arB = q2 at *
  have HKb := hr hk2
  clear hk2
  have hf := HK.out.1.frozen 3
  have hc : w4.cell? ⟨w.heap.size, 3, none⟩ = some (.bool false) := HK.out.1.cell 3
  have HK2 : Hid (Vk (w4.setCell ⟨w.heap.size, 3, none⟩ (.bool q2)) w.heap.size #[.pointer (some ⟨b, 0, none⟩), .slice ao n cap, .bool q1, .bool q2, .bool false] ∧ Below w.heap.size w (w4.setCell ⟨w.heap.size, 3, none⟩ (.bool q2))) := ⟨HK.out.1.set 3 _, HK.out.2.setCell (Nat.le_refl _) _⟩
  clear HK
  go_wp2_with fail
  generalize w4.setCell ⟨w.heap.size, 3, none⟩ (.bool q2) = w5 at *
  refine (HCt.out w5 _ _ _ _ _ ask_et trivial HK2.out.2).mono ?_
  rintro e w6 ⟨rfl, hb4⟩
  have HK : Hid (Vk w6 w.heap.size #[.pointer (some ⟨b, 0, none⟩), .slice ao n cap, .bool q1, .bool q2, .bool false] ∧ Below w.heap.size w w6) := ⟨HK2.out.1.step hb4, HK2.out.2.trans (hb4.mono HK2.out.2.size)⟩
  clear HK2 hb4 hf hc
  generalize hk3 : X.any etB = q3 at *
  have HKc := hr hk3
  clear hk3
  have hf := HK.out.1.frozen 4
  have hc : w6.cell? ⟨w.heap.size, 4, none⟩ = some (.bool false) := HK.out.1.cell 4
  have HK2 : Hid (Vk (w6.setCell ⟨w.heap.size, 4, none⟩ (.bool q3)) w.heap.size #[.pointer (some ⟨b, 0, none⟩), .slice ao n cap, .bool q1, .bool q2, .bool q3] ∧ Below w.heap.size w (w6.setCell ⟨w.heap.size, 4, none⟩ (.bool q3))) := ⟨HK.out.1.set 4 _, HK.out.2.setCell (Nat.le_refl _) _⟩
  clear HK
  go_wp2_with fail
  go_ret
  refine ⟨_, rfl, ⟨HB.out.step HK2.out.2, ?_, HX.out, HS.out.step HK2.out.2⟩, HK2.out.2⟩
  rw [HK1.out, HKb.out, HKc.out]
  exact HK2.out.1
end Ru
end Go.Proofs.Ytbamhbfncddieaa
