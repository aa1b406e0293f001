import Derived.Test.YtkhipgcgcbhjoaaGreatDn2
import Derived.Great.BuildSlice
import Derived.Deep.WholeRow
set_option maxRecDepth 1000000
set_option maxHeartbeats 8000000
namespace Go.Proofs.YtkhipgcgcbhjoaaGreat.Pr
open Go.RowKit Go.Lib
def exB (r : Int) : Bool:=r == 836 || (decide (2392 <= r) && decide (r <= 2399))
def valP (x : R3) : Pt:=(x.2.1,x.2.2,if x.2.2 = 0 then 1 else 2)
def skipB (x : R3) : Bool:=x.2.2 == 0 || exB x.1
def dnF (L : List R3) : Int -> Option Pt:=L.foldl (fun f x k=>if k = x.1 then some (valP x) else f k) (fun _=>none)
def upF (L : List R3) : Int × Int -> Option Int:=L.foldl (fun f x k=>if skipB x = true then f k else if k = (x.2.1,x.2.2) then some x.1 else f k) (fun _=>none)
def scF (L : List R3) : Int -> Option Int:=L.foldl (fun f x k=>if skipB x = true then f k else if k = x.2.2 then some ((f x.2.2).getD 0 + 1) else f k) (fun _=>none)
theorem dn_snoc (L : List R3) (x : R3) : dnF (L ++ [x]) = fun k=>if k = x.1 then some (valP x) else dnF L k:=by unfold dnF; rw [List.foldl_append]; rfl
theorem up_snoc (L : List R3) (x : R3) : upF (L ++ [x]) = fun k=>if skipB x = true then upF L k else if k = (x.2.1,x.2.2) then some x.1 else upF L k:=by unfold upF; rw [List.foldl_append]; rfl
theorem sc_snoc (L : List R3) (x : R3) : scF (L ++ [x]) = fun k=>if skipB x = true then scF L k else if k = x.2.2 then some ((scF L x.2.2).getD 0 + 1) else scF L k:=by unfold scF; rw [List.foldl_append]; rfl
theorem snoc_ind {P : List R3 -> Prop} (h0 : P []) (hs : ∀ L x,P L -> P (L ++ [x])) (L : List R3) : P L:=by
 have : ∀ (n : Nat) (L : List R3),L.length = n -> P L:=by
  intro n
  induction n with
  | zero=>intro L hL; rw [List.eq_nil_of_length_eq_zero hL]; exact h0
  | succ n ih =>
   intro L hL
   obtain ⟨M,x,rfl⟩ : ∃ M x,L = M ++ [x]:=⟨L.dropLast,L.getLast (by intro e; rw [e] at hL; simp at hL),(List.dropLast_concat_getLast _).symm⟩
   exact hs M x (ih M (by simpa using hL))
 exact this _ L rfl
theorem sc_bd (k : Int) (L : List R3) : 0 <= (scF L k).getD 0 ∧ (scF L k).getD 0 <= L.length:=by
 have : ∀ k,0 <= (scF L k).getD 0 ∧ (scF L k).getD 0 <= L.length:=by
  refine snoc_ind (P:=fun L=>∀ k,0 <= (scF L k).getD 0 ∧ (scF L k).getD 0 <= L.length) (fun k=>by simp [scF]) (fun L x ih k=>?_) L
  rw [sc_snoc,List.length_append];have h1:=ih k
  have h2:=ih x.2.2
  simp only [List.length_cons,List.length_nil]
  split
  ·omega
  ·split
   ·simp only [Option.getD_some]; omega
   ·omega
 exact this k
structure Kp (d u s : Nat) (w w' : World) : Prop where
 os : w'.os = w.os
 tape : w'.tape = w.tape
 output : w'.output = w.output
 size : w.heap.size <= w'.heap.size
 block : ∀ k,k < w.heap.size -> k ≠ d -> k ≠ u -> k ≠ s -> w'.heap[k]? = w.heap[k]?
theorem Kp.refl (d u s : Nat) (w : World) : Kp d u s w w:=⟨rfl,rfl,rfl,Nat.le_refl _,fun _ _ _ _ _=>rfl⟩
theorem Kp.trans {d u s : Nat} {a b c : World} (h : Kp d u s a b) (h' : Kp d u s b c) : Kp d u s a c :=
 ⟨h'.os.trans h.os,h'.tape.trans h.tape,h'.output.trans h.output,Nat.le_trans h.size h'.size,fun k hk h1 h2 h3=>(h'.block k (Nat.lt_of_lt_of_le hk h.size) h1 h2 h3).trans (h.block k hk h1 h2 h3)⟩
theorem Kp.grown {d u s : Nat} {a b : World} {r : Nat} (hg : a.grownBy b (some r)) (hr : r = d ∨ r = u ∨ r = s) : Kp d u s a b :=
 ⟨hg.os,hg.tape,hg.output,hg.size,fun k hk h1 h2 h3=>hg.block k hk (fun e=>by have:=Option.some.inj e; omega)⟩
theorem Kp.of_below {d u s : Nat} {a b : World} (h : Below a.heap.size a b) : Kp d u s a b:=⟨h.os,h.tape,h.output,h.size,fun k hk _ _ _=>h.block k hk⟩
theorem Kp.below {d u s B : Nat} {a b : World} (h : Kp d u s a b) (hB : B <= a.heap.size) (h1 : B <= d) (h2 : B <= u) (h3 : B <= s) : Below B a b :=
 ⟨h.os,h.tape,h.output,h.size,fun k hk=>h.block k (by omega) (by omega) (by omega) (by omega)⟩
structure PW (w : World) (p d u s : Nat) (L : List R3) (sz : Nat) : Prop where
 blk : w.heap[p]? = some (.cells #[.map (some d),.map (some u),.map (some s)] 73)
 dn : ∃ n,n <= L.length ∧ DownW w d n (dnF L) sz
 up : ∃ n,n <= L.length ∧ UpW w u n (upF L)
 sc : ∃ n,n <= L.length ∧ SecW w s n (scF L)
 ne : (d ≠ u ∧ d ≠ s ∧ u ≠ s) ∧ p ≠ d ∧ p ≠ u ∧ p ≠ s
theorem PW.step {w w' : World} {p d u s sz : Nat} {L : List R3} (h : PW w p d u s L sz) (hb : Below w.heap.size w w') : PW w' p d u s L sz:=by
 obtain ⟨n1,l1,h1⟩:=h.dn
 obtain ⟨n2,l2,h2⟩:=h.up
 obtain ⟨n3,l3,h3⟩:=h.sc
 exact ⟨(hb.block p (Array.getElem?_eq_some_iff.1 h.blk).1).trans h.blk,⟨n1,l1,h1.block (hb.block d h1.lt)⟩,⟨n2,l2,h2.block (hb.block u h2.lt)⟩,⟨n3,l3,h3.block (hb.block s h3.lt)⟩,h.ne⟩
theorem PW.cells {w : World} {p d u s sz : Nat} {L : List R3} (h : PW w p d u s L sz) : w.cell? ⟨p,0,none⟩ = some (.map (some d)) ∧ w.cell? ⟨p,1,none⟩ = some (.map (some u)) ∧ w.cell? ⟨p,2,none⟩ = some (.map (some s)):=by
 have:=cells3 h.blk
 exact ⟨this.1,this.2.1,this.2.2.1⟩
theorem run_fieldP (x : Pt) (w : World) : (Instr.field 78 (.agg #[.int .i32 x.1,.int .i32 x.2.1,.int .i64 x.2.2]) 2).run Tryz.prog w = .ok (.int .i64 x.2.2) w:=by simp [Instr.field,run_underlying Tryz.underlying78,asAgg,part,isAgg,run_underlying Tryz.underlying3]
def exF (x : Option Pt) (r : Int) : Bool:=(x.getD (0,0,0)).2.2 == 1 || exB r
theorem ex_any' {w : World} {p d n sz : Nat} {f : Int -> Option Pt} (c0 : w.cell? ⟨p,0,none⟩ = some (.map (some d))) (hd : DownW w d n f sz) {r : Int} (hr : I32 r) :
 Calls Tryz.prog 86 #[.pointer (some ⟨p,0,none⟩),.int .i32 r] w fun e w'=>e = .returned (.bool (exF (f r) r)) ∧ w' = w:=by
 have hlk:=hd.look hr
 have E : Hid (exF (f r) r = (((f r).getD (0,0,0)).2.2 == 1 || exB r)):=rfl
 clear hd;generalize (f r).getD (0,0,0) = x at *;generalize f r = fr at *;have hfd:=run_fieldP x
 unfold pv at hlk;obtain ⟨x1,x2,x3⟩:=x
 simp only at hfd hlk
 by_cases h1 : x3 = 1
 ·have E2 : Hid (exF fr r = true):=by show _ = _; rw [E.out,h1]; rfl
  subst h1;go_enter Tryz.func86,Tryz.ntmps86
  go_wp2
  go_ret;exact ⟨ret_bool E2.out.symm,rfl⟩
 ·have h1' : (x3 == 1) = false:=by simpa using h1
  have E2 : Hid (exF fr r = exB r):=by show _ = _; rw [E.out]; show (x3 == 1 || exB r) = exB r; rw [h1']; rfl
  by_cases h2 : r = 836
  ·have E3 : Hid (exF fr r = true):=by show _ = _; rw [E2.out,h2]; rfl
   subst h2;go_enter Tryz.func86,Tryz.ntmps86
   go_wp2
   go_ret;exact ⟨ret_bool E3.out.symm,rfl⟩
  ·have h2' : (r == 836) = false:=by simpa using h2
   have E3 : Hid (exF fr r = (decide (2392 <= r) && decide (r <= 2399))):=by show _ = _; rw [E2.out,exB,h2']; rfl
   by_cases h3 : 2392 <= r
   ·by_cases h4 : r <= 2399
    ·have E4 : Hid (exF fr r = true):=by show _ = _; rw [E3.out,decide_eq_true h3,decide_eq_true h4]; rfl
     go_enter Tryz.func86,Tryz.ntmps86
     go_wp2
     go_ret;exact ⟨ret_bool E4.out.symm,rfl⟩
    ·have E4 : Hid (exF fr r = false):=by show _ = _; rw [E3.out,decide_eq_false h4,Bool.and_false]
     go_enter Tryz.func86,Tryz.ntmps86
     go_wp2
     go_ret;exact ⟨ret_bool E4.out.symm,rfl⟩
   ·have E4 : Hid (exF fr r = false):=by show _ = _; rw [E3.out,decide_eq_false h3,Bool.false_and]
    go_enter Tryz.func86,Tryz.ntmps86
    go_wp2
    go_ret;exact ⟨ret_bool E4.out.symm,rfl⟩
theorem grown_other {w w' : World} {r k : Nat} (hg : w.grownBy w' (some r)) (hk : k < w.heap.size) (hne : k ≠ r) : w'.heap[k]? = w.heap[k]?:=hg.block k hk (fun e=>hne (Option.some.inj e))
theorem put_any {w : World} {p d u s sz : Nat} {L : List R3} (h : PW w p d u s L sz) (hl : L.length < 4000) {r a b : Int} (hr : I32 r) (ha : I32 a) (hb : I32 b) (hb0 : b ≠ 0) (hnew : dnF L r = none) :
 Calls Tryz.prog 42 #[.pointer (some ⟨p,0,none⟩),.int .i32 r,.int .i32 a,.int .i32 b] w fun e w'=>e = .returned (.tuple #[]) ∧ PW w' p d u s (L ++ [(r,a,b)]) (sz + 1) ∧ Kp d u s w w':=by
 obtain ⟨n1,l1,h1⟩:=h.dn
 obtain ⟨n2,l2,h2⟩:=h.up
 obtain ⟨n3,l3,h3⟩:=h.sc
 obtain ⟨⟨e1,e2,e3⟩,e4,e5,e6⟩:=h.ne
 have hp:=(Array.getElem?_eq_some_iff.1 h.blk).1
 have hval : valP (r,a,b) = (a,b,2):=by unfold valP; rw [if_neg hb0]
 obtain ⟨w1,hrun1,hd1,hg1⟩:=h1.upd (by omega) hr (a,b,2)
 rw [hnew] at hd1;simp only [Option.isSome_none,Bool.false_eq_true,if_false] at hd1
 have hdn : (fun y=>if y = r then some (a,b,2) else dnF L y) = dnF (L ++ [(r,a,b)]):=by rw [dn_snoc,hval]
 have hblk1:=(grown_other hg1 hp e4).trans h.blk
 have hu1:=h2.block (grown_other hg1 h2.lt (Ne.symm e1))
 have hs1:=h3.block (grown_other hg1 h3.lt (Ne.symm e2))
 have hk1 : Kp d u s w w1:=Kp.grown hg1 (.inl rfl)
 have c0:=h.cells.1
 obtain ⟨q0,q1,q2,_⟩:=cells3 hblk1
 have HE:=hid (ex_any' q0 hd1 hr);have hex : exF (if r = r then some (a,b,2) else dnF L r) r = exB r:=by rw [if_pos rfl]; rfl
 rw [hex] at HE;clear hex;rw [hdn] at hd1;have hd1' : ∃ n,n <= (L ++ [(r,a,b)]).length ∧ DownW w1 d n (dnF (L ++ [(r,a,b)])) (sz + 1):=⟨n1 + 1,by simp; omega,hd1⟩
 have hsk : skipB (r,a,b) = exB r:=by
  unfold skipB;have : (b == 0) = false:=by simpa using hb0
  show (b == 0 || exB r) = exB r
  rw [this]; rfl
 unfold pv at hrun1;simp only at hrun1
 cases hx : exB r with
 | true =>
  rw [hx] at hsk HE
  have HW : Hid (PW w1 p d u s (L ++ [(r,a,b)]) (sz + 1)):=by
   refine ⟨hblk1,hd1',⟨n2,by simp; omega,?_⟩,⟨n3,by simp; omega,?_⟩,h.ne⟩
   ·rw [up_snoc]; simp only [hsk,if_true]; exact hu1
   ·rw [sc_snoc]; simp only [hsk,if_true]; exact hs1
  have HK:=hid hk1
  clear h h1 h2 h3 hd1 hd1' hg1 hblk1 hu1 hs1 hk1 hsk hx hdn hnew;go_enter Tryz.func42,Tryz.ntmps42
  go_wp2_with (go_at_call 86; refine HE.out.mono ?_; rintro e w' ⟨rfl,rfl⟩)
  (try simp only [Exit.inBlock,Exit.then])
  refine bodyPost_ret (results_none rfl _ _ _) rfl ?_
  exact ⟨rfl,HW.out,HK.out⟩
 | false =>
  rw [hx] at hsk HE
  obtain ⟨w2,hrun2,hu2,hg2⟩:=hu1.upd (by omega) ha hb hr
  have hlt1 : ∀ k,k < w.heap.size -> k < w1.heap.size:=fun k hk=>Nat.lt_of_lt_of_le hk hg1.size
  have hs2:=hs1.block (grown_other hg2 hs1.lt (Ne.symm e3))
  have hd2:=hd1.block (grown_other hg2 hd1.lt e1)
  have hblk2:=(grown_other hg2 (hlt1 p hp) e5).trans hblk1
  have hlk:=hs2.look hb
  have hcb:=sc_bd b L
  obtain ⟨w3,hrun3,hs3,hg3⟩:=hs2.upd (by omega) hb (c:=(scF L b).getD 0 + 1) ⟨by omega,by omega⟩
  have hlt2 : ∀ k,k < w1.heap.size -> k < w2.heap.size:=fun k hk=>Nat.lt_of_lt_of_le hk hg2.size
  have hd3:=hd2.block (grown_other hg3 hd2.lt e2)
  have hu3:=hu2.block (grown_other hg3 hu2.lt e3)
  have hblk3:=(grown_other hg3 (hlt2 p (hlt1 p hp)) e6).trans hblk2
  obtain ⟨t0,t1,t2,_⟩:=cells3 hblk2
  have HW : Hid (PW w3 p d u s (L ++ [(r,a,b)]) (sz + 1)):=by
   refine ⟨hblk3,⟨n1 + 1,by simp; omega,hd3⟩,⟨n2 + 1,by simp; omega,?_⟩,⟨n3 + 1,by simp; omega,?_⟩,h.ne⟩
   ·rw [up_snoc]; simp only [hsk,Bool.false_eq_true,if_false]; exact hu3
   ·rw [sc_snoc]; simp only [hsk,Bool.false_eq_true,if_false]; exact hs3
  have HK:=hid ((hk1.trans (Kp.grown hg2 (.inr (.inl rfl)))).trans (Kp.grown (d:=d) (u:=u) hg3 (.inr (.inr rfl))))
  have hc1:=hcb.1
  have hc2 : (scF L b).getD 0 <= 4000:=by have:=hcb.2; omega
  generalize (scF L b).getD 0 = c at *;clear h h1 h2 h3 hd1 hd1' hg1 hblk1 hu1 hs1 hk1 hsk hx hdn hnew hu2 hg2 hlt1 hs2 hd2 hblk2 hs3 hg3 hlt2 hd3 hu3 hblk3 hcb
  go_enter Tryz.func42,Tryz.ntmps42
  go_wp2_with (go_at_call 86; refine HE.out.mono ?_; rintro e w' ⟨rfl,rfl⟩)
  go_end0
  exact ⟨rfl,HW.out,HK.out⟩
def allP : List R3:=singT ++ pairT
def distB : List R3 -> Bool
 | []=>true
 | x :: l=>l.all (fun y=>!(y.1 == x.1)) && distB l
theorem all_dist : distB allP = true:=by kernel_rfl
theorem all_lenP : allP.length = 395:=by kernel_rfl
def okR (x : R3) : Bool:=decide (0 <= x.1) && decide (x.1 <= 70000) && decide (0 <= x.2.1) && decide (x.2.1 <= 70000) && decide (0 <= x.2.2) && decide (x.2.2 <= 70000)
theorem all_okR : allP.all okR = true:=by kernel_rfl
theorem pair_two : pairT.all (fun x=>!(x.2.2 == 0)) = true:=by kernel_rfl
theorem ok_bd {x : R3} (h : okR x = true) : I32 x.1 ∧ I32 x.2.1 ∧ I32 x.2.2:=by
 simp only [okR,Bool.and_eq_true,decide_eq_true_eq] at h
 unfold I32;omega
theorem all_bd : ∀ x ∈ allP,I32 x.1 ∧ I32 x.2.1 ∧ I32 x.2.2:=fun x hx=>ok_bd (List.all_eq_true.1 all_okR x hx)
theorem sing_bd : ∀ x ∈ singT,I32 x.1 ∧ I32 x.2.1 ∧ I32 x.2.2:=fun x hx=>all_bd x (List.mem_append_left _ hx)
theorem pair_bd : ∀ x ∈ pairT,I32 x.1 ∧ I32 x.2.1 ∧ I32 x.2.2:=fun x hx=>all_bd x (List.mem_append_right _ hx)
theorem sing_z : ∀ x ∈ singT,x.2.2 = 0:=fun x hx=>eq_of_beq (List.all_eq_true.1 sing_zero x hx)
theorem pair_nz : ∀ x ∈ pairT,x.2.2 ≠ 0:=fun x hx=>by simpa using List.all_eq_true.1 pair_two x hx
theorem sing_len : singT.length = 10:=by decide
theorem pair_le : pairT.length <= 400:=by have h:=Nat.le_of_ble_eq_true pair_len; exact h
theorem pair_pos : 0 < pairT.length:=by have h:=all_lenP; unfold allP at h; rw [List.length_append,sing_len] at h; omega
theorem dn_none (r : Int) (L : List R3) (h : ∀ x ∈ L,x.1 ≠ r) : dnF L r = none:=by
 have : (∀ x ∈ L,x.1 ≠ r) -> dnF L r = none:=by
  refine snoc_ind (P:=fun L=>(∀ x ∈ L,x.1 ≠ r) -> dnF L r = none) (fun _=>rfl) (fun L x ih hh=>?_) L
  rw [dn_snoc];show (if r = x.1 then some (valP x) else dnF L r) = none
  rw [if_neg (fun e=>hh x (by simp) e.symm)]
  exact ih (fun y hy=>hh y (by simp [hy]))
 exact this h
theorem dist_at : ∀ (l : List R3) (k : Nat) (x : R3),distB l = true -> l[k]? = some x -> ∀ y ∈ l.take k,y.1 ≠ x.1
 | [],_,_,_,h,_,_=>by simp at h
 | z :: l,0,x,_,_,y,hy=>by simp at hy
 | z :: l,k + 1,x,hd,h,y,hy=>by
  simp only [distB,Bool.and_eq_true] at hd
  simp only [List.getElem?_cons_succ] at h
  simp only [List.take_succ_cons,List.mem_cons] at hy
  rcases hy with rfl | hy
  ·have:=List.all_eq_true.1 hd.1 x (List.mem_of_getElem? h)
   intro e
   simp [e] at this
  ·exact dist_at l k x hd.2 h y hy
theorem new_sing {k : Nat} (hk : k < singT.length) : dnF (singT.take k) singT[k].1 = none:=by
 refine dn_none _ _ (fun y hy=>?_)
 refine dist_at allP k singT[k] all_dist ?_ y ?_
 ·unfold allP; rw [List.getElem?_append_left hk,List.getElem?_eq_getElem hk]
 ·unfold allP; rw [List.take_append_of_le_length (by omega)]; exact hy
theorem new_pair {k : Nat} (hk : k < pairT.length) : dnF (singT ++ pairT.take k) pairT[k].1 = none:=by
 refine dn_none _ _ (fun y hy=>?_)
 refine dist_at allP (singT.length + k) pairT[k] all_dist ?_ y ?_
 ·unfold allP; rw [List.getElem?_append_right (by omega),show singT.length + k - singT.length = k by omega,List.getElem?_eq_getElem hk]
 ·unfold allP; rw [List.take_length_add_append]; exact hy
def R3In (w : World) (g : Nat) (T : List R3) : Prop:=∀ k (h : k < T.length),w.cell? ⟨g,k * 3,none⟩ = some (.int .i32 T[k].1) ∧ w.cell? ⟨g,k * 3 + 1,none⟩ = some (.int .i32 T[k].2.1) ∧ w.cell? ⟨g,k * 3 + 2,none⟩ = some (.int .i32 T[k].2.2)
theorem c3_at : ∀ (l : List R3) (j i : Nat) (h : j < l.length),i < 3 -> (l.flatMap c3)[j * 3 + i]? = (c3 l[j])[i]?
 | [],_,_,h,_=>by simp at h
 | x :: l,0,i,_,hi=>by
  simp only [List.flatMap_cons,Nat.zero_mul,Nat.zero_add,List.getElem_cons_zero]
  rw [List.getElem?_append_left (by simp [c3]; omega)]
 | x :: l,j + 1,i,h,hi=>by
  have:=c3_at l j i (by simpa using h) hi
  rw [List.flatMap_cons,List.getElem?_append_right (by simp [c3]; omega)]
  rw [show (j + 1) * 3 + i - (c3 x).length = j * 3 + i by simp [c3]; omega,this]
  rfl
theorem r3_of_own {w : World} {B : Nat} {v : Value} {T : List R3} (h : w.ownsRow B 76 3 v T.length (T.flatMap c3)) (h0 : 0 < T.length) : ∃ g cap,v = .slice (some ⟨g,0,none⟩) T.length cap ∧ B <= g ∧ g < w.heap.size ∧ R3In w g T:=by
 rcases h.2 with ⟨_,h2⟩ | ⟨g,cap,cur,rfl,h2,h3,h4,h5,h6,h7⟩
 ·omega
 ·refine ⟨g,cap,rfl,h2,(Array.getElem?_eq_some_iff.1 h3).1,fun k hk=>?_⟩
  have c:=fun i (hi : i < 3)=>(h.cellAt (k * 3 + i) (by omega)).trans (c3_at T k i hk hi)
  exact ⟨c 0 (by omega),c 1 (by omega),c 2 (by omega)⟩
theorem calls_str {P : Program} {f : FuncId} {s s' : ByteArray} {n : Int} {w : World} {Q : Ending -> World -> Prop} (e : s = s') (h : Calls P f #[.string s',.int .i64 n] w Q) : Calls P f #[.string s,.int .i64 n] w Q:=by rw [e]; exact h
theorem pw_start (w : World) : PW ((((w.alloc (.map #[] 0)).alloc (.map #[] 0)).alloc (.map #[] 0)).alloc (.cells #[.map (some w.heap.size),.map (some (w.heap.size + 1)),.map (some (w.heap.size + 1 + 1))] 73)) (w.heap.size + 1 + 1 + 1) w.heap.size (w.heap.size + 1) (w.heap.size + 1 + 1) [] 0:=by
 refine ⟨?_,⟨0,Nat.le_refl _,.map [],?_,MapIs.nil _ _,rfl⟩,⟨0,Nat.le_refl _,.map [],?_,MapIs.nil _ _⟩,⟨0,Nat.le_refl _,.map [],?_,MapIs.nil _ _⟩,by omega,by omega,by omega,by omega⟩
 ·have:=heap_alloc_new (((w.alloc (.map #[] 0)).alloc (.map #[] 0)).alloc (.map #[] 0)) (.cells #[.map (some w.heap.size),.map (some (w.heap.size + 1)),.map (some (w.heap.size + 1 + 1))] 73)
  simp only [World.size_alloc] at this
  exact this
 ·exact (((World.ownsMap_made w Tryz.prog _ _).alloc _).alloc _).alloc _
 ·have:=World.ownsMap_made (w.alloc (.map #[] 0)) Tryz.prog 140 (plainElem (H:=Unit) Tryz.prog 21)
  rw [World.size_alloc] at this;exact (this.alloc _).alloc _
 ·have:=World.ownsMap_made ((w.alloc (.map #[] 0)).alloc (.map #[] 0)) Tryz.prog 21 (plainElem (H:=Unit) Tryz.prog 3)
  simp only [World.size_alloc] at this
  exact this.alloc _
theorem PW.single {w : World} {p d u s sz : Nat} {L : List R3} (h : PW w p d u s L sz) (hl : L.length < 4000) {r a : Int} (hr : I32 r) (hnew : dnF L r = none) :
 ∃ w',(Instr.mapUpdate 69 (.map (some d)) (.int .i32 r) (.agg #[.int .i32 a,.int .i32 0,.int .i64 1])).run Tryz.prog w = .ok () w' ∧ PW w' p d u s (L ++ [(r,a,0)]) (sz + 1) ∧ Kp d u s w w':=by
 obtain ⟨n1,l1,h1⟩:=h.dn
 obtain ⟨n2,l2,h2⟩:=h.up
 obtain ⟨n3,l3,h3⟩:=h.sc
 obtain ⟨⟨e1,e2,e3⟩,e4,e5,e6⟩:=h.ne
 have hp:=(Array.getElem?_eq_some_iff.1 h.blk).1
 have hval : valP (r,a,0) = (a,0,1):=rfl
 obtain ⟨w1,hrun1,hd1,hg1⟩:=h1.upd (by omega) hr (a,0,1)
 rw [hnew] at hd1;simp only [Option.isSome_none,Bool.false_eq_true,if_false] at hd1
 have hdn : (fun y=>if y = r then some (a,0,1) else dnF L y) = dnF (L ++ [(r,a,0)]):=by rw [dn_snoc,hval]
 rw [hdn] at hd1;have hsk : skipB (r,a,0) = true:=rfl
 refine ⟨w1,hrun1,⟨(grown_other hg1 hp e4).trans h.blk,⟨n1 + 1,by simp; omega,hd1⟩,⟨n2,by simp; omega,?_⟩,⟨n3,by simp; omega,?_⟩,h.ne⟩,Kp.grown hg1 (.inl rfl)⟩
 ·rw [up_snoc]; simp only [hsk,if_true]; exact h2.block (grown_other hg1 h2.lt (Ne.symm e1))
 ·rw [sc_snoc]; simp only [hsk,if_true]; exact h3.block (grown_other hg1 h3.lt (Ne.symm e2))
theorem PW.lts {w : World} {p d u s sz : Nat} {L : List R3} (h : PW w p d u s L sz) : d < w.heap.size ∧ u < w.heap.size ∧ s < w.heap.size ∧ p < w.heap.size:=by
 obtain ⟨_,_,h1⟩:=h.dn
 obtain ⟨_,_,h2⟩:=h.up
 obtain ⟨_,_,h3⟩:=h.sc
 exact ⟨h1.lt,h2.lt,h3.lt,(Array.getElem?_eq_some_iff.1 h.blk).1⟩
theorem take_snocR (T : List R3) (k : Nat) (h : k < T.length) : T.take (k + 1) = T.take k ++ [T[k]]:=List.take_succ_eq_append_getElem h
theorem new_any (w : World) : Calls Tryz.prog 15 #[] w fun e w'=>∃ p d u s,e = .returned (.pointer (some ⟨p,0,none⟩)) ∧ PW w' p d u s allP 395 ∧ Below w.heap.size w w':=by
 have HR2:=hid (fun w=>rows2_any singS singT w dec_sing (by rw [sing_len]; decide) sing_z)
 have HR3:=hid (fun w=>rows3_any pairsS pairT w dec_pairs (by have:=pair_le; omega))
 have hmm : ∀ (t : TypeId) (w : World),(Instr.makeMap t none).run Tryz.prog w = .ok (.map (some w.heap.size)) (w.alloc (.map #[] 0)):=fun _ _=>rfl
 go_enter Tryz.func15,Tryz.ntmps15
 go_wp2_with (go_at_call 41; refine calls_str (s':=singS) (by kernel_rfl) ?_; refine (HR2.out _).mono ?_; rintro e w1 ⟨v1,rfl,ho1,hb1⟩; have HO1:=hid ho1; have HB1:=hid hb1; clear ho1 hb1; obtain ⟨g1,cap1,rfl,hg1,hgl1,hR1⟩:=r3_of_own HO1.out (by rw [sing_len]; decide))
 have HP1:=hid ((pw_start w).step HB1.out);have HRR : Hid (g1 < w1.heap.size ∧ R3In w1 g1 singT ∧ g1 ≠ w.heap.size ∧ g1 ≠ w.heap.size + 1 ∧ g1 ≠ w.heap.size + 1 + 1):=⟨hgl1,hR1,by simp at hg1; omega,by simp at hg1; omega,by simp at hg1; omega⟩
 have HBW : Hid (Below w.heap.size w w1):=by
  have hb0 : Below w.heap.size w ((((w.alloc (.map #[] 0)).alloc (.map #[] 0)).alloc (.map #[] 0)).alloc (.cells #[.map (some w.heap.size),.map (some (w.heap.size + 1)),.map (some (w.heap.size + 1 + 1))] 73)):=((((Below.refl _ _).alloc (by simp) _).alloc (by simp) _).alloc (by simp; omega) _).alloc (by simp; omega) _
  exact hb0.trans (HB1.out.mono hb0.size)
 clear hgl1 hR1 hg1 HO1 HB1 HR2;have HNE : Hid (w.heap.size <= w.heap.size + 1 ∧ w.heap.size <= w.heap.size + 1 + 1):=⟨by omega,by omega⟩
 generalize w.heap.size + 1 + 1 + 1 = p at *;generalize w.heap.size + 1 + 1 = s at *;generalize w.heap.size + 1 = u at *;have HNS:=hid (fun (k : Nat) (hk : k < singT.length)=>new_sing hk)
 have HSZ:=hid (And.intro sing_z sing_bd);have hsl : singT.length <= 10:=by rw [sing_len]; decide
 have HSLen:=hid sing_len
 generalize hT : singT = T at *;have HT:=hid hT
 clear hT;go_loopg [13] T.length (fun gg i wr=>∃ k : Nat,k <= T.length ∧ gg = T.length - k ∧ i = .int .i64 k ∧ Hid (PW wr p w.heap.size u s (T.take k) k ∧ Kp w.heap.size u s w1 wr))
 case atStart=>exact ⟨0,Nat.zero_le _,by omega,rfl,HP1.out,Kp.refl _ _ _ _⟩
 case round =>
  clear HP1;obtain ⟨k,hk,hg,rfl,H⟩:=hrel
  have HG:=hid hg
  clear hg;by_cases hlt : k < T.length
  ·obtain ⟨e0,e1,e2⟩:=HRR.out.2.1 k hlt
   have hq:=H.out.2.block g1 HRR.out.1 HRR.out.2.2.1 HRR.out.2.2.2.1 HRR.out.2.2.2.2
   have d0:=(World.cell?_of_block (a:=⟨g1,k * 3,none⟩) hq).trans e0
   have d1:=(World.cell?_of_block (a:=⟨g1,k * 3 + 1,none⟩) hq).trans e1
   have d2:=(World.cell?_of_block (a:=⟨g1,k * 3 + 2,none⟩) hq).trans e2
   have b1 : (0 : Int) <= k ∧ (k : Int) < (T.length : Int):=by omega
   have hz:=HSZ.out.1 T[k] (List.getElem_mem hlt)
   have hbd:=(HSZ.out.2 T[k] (List.getElem_mem hlt)).1
   have hnw:=HNS.out k hlt
   have HTK:=hid (take_snocR T k hlt);have hkl : (T.take k).length < 4000:=by rw [List.length_take]; omega
   clear e0 e1 e2 hq HNS;generalize T[k] = x at *;obtain ⟨x1,x2,x3⟩:=x
   simp only at d0 d1 d2 hz hbd hnw
   subst hz;have HPa:=hid (H.out.1.step ((Below.refl _ _).alloc (Nat.le_refl _) (.cells #[.int .i32 x1,.int .i32 x2,.int .i32 0] 76)));have HKa:=hid (H.out.2.trans (Kp.of_below ((Below.refl wr.heap.size wr).alloc (Nat.le_refl _) (.cells #[.int .i32 x1,.int .i32 x2,.int .i32 0] 76))))
   have HLa:=hid (heap_alloc_new wr (.cells #[.int .i32 x1,.int .i32 x2,.int .i32 0] 76));have HLT:=hid H.out.1.lts
   have HLW : Hid (wr.heap.size < (wr.alloc (.cells #[.int .i32 x1,.int .i32 x2,.int .i32 0] 76)).heap.size):=by show _ < _; simp
   clear H;go_wp2_with fail;generalize wr.alloc (.cells #[.int .i32 x1,.int .i32 x2,.int .i32 0] 76) = W2 at *;generalize wr.heap.size = lb at *;have HPd:=hid (HPa.out.step ((Below.refl W2.heap.size W2).drew))
   obtain ⟨w3,hrun3,hP3,hK3⟩:=HPd.out.single hkl (a:=x2) hbd hnw
   obtain ⟨s0,s1,_,_⟩:=cells3 HLa.out
   obtain ⟨t0,_,_⟩:=HPa.out.cells
   have HP3:=hid hP3
   have HK3:=hid ((HKa.out.trans (Kp.of_below ((Below.refl W2.heap.size W2).drew))).trans hK3);obtain ⟨z0,z1,_,_⟩:=cells3 ((hK3.block lb HLW.out (by have:=HLT.out; omega) (by have:=HLT.out; omega) (by have:=HLT.out; omega)).trans HLa.out)
   obtain ⟨y0,_,_⟩:=hP3.cells
   clear hP3 hK3 d0 d1 d2 HPd;go_region_held3 (fun w'=>w'.cell? ⟨p,0,none⟩ = some (.map (some w.heap.size)) ∧ w'.cell? ⟨lb,0,none⟩ = some (.int .i32 x1) ∧ w'.cell? ⟨lb,1,none⟩ = some (.int .i32 x2))
    (first | exact ⟨t0,s0,s1⟩ | exact ⟨y0,z0,z1⟩)
    (fail)
   go_wp2_with fail;go_roundg (T.length - (k + 1))
   case measure=>rw [HG.out]; omega
   case rel=>exact ⟨k + 1,by omega,rfl,by go_num,by rw [HTK.out]; exact HP3.out,HK3.out⟩
  ·have e : k = T.length:=by omega
   subst e;have HP4 : Hid (PW wr p w.heap.size u s T T.length):=by have:=H.out.1; rw [List.take_length] at this; exact this
   have HBq : Hid (Below w.heap.size w wr):=HBW.out.trans (H.out.2.below HBW.out.size (Nat.le_refl _) HNE.out.1 HNE.out.2)
   have HLT:=hid H.out.1.lts
   clear H HRR HNS HSZ HBW;go_wp2_with (go_at_call 41; refine calls_str (s':=pairsS) (by kernel_rfl) ?_; refine (HR3.out _).mono ?_; rintro e w4 ⟨v4,rfl,ho4,hb4⟩; have HO4:=hid ho4; have HB4:=hid hb4; clear ho4 hb4; obtain ⟨g4,cap4,rfl,hg4,hgl4,hR4⟩:=r3_of_own HO4.out pair_pos)
   have HP5:=hid (HP4.out.step HB4.out);have HRR : Hid (g4 < w4.heap.size ∧ R3In w4 g4 pairT ∧ g4 ≠ w.heap.size ∧ g4 ≠ u ∧ g4 ≠ s):=⟨hgl4,hR4,by have:=HLT.out; omega,by have:=HLT.out; omega,by have:=HLT.out; omega⟩
   have HBr:=hid (HBq.out.trans (HB4.out.mono HBq.out.size));have HNP : Hid (∀ (k : Nat) (hk : k < pairT.length),dnF (T ++ pairT.take k) pairT[k].1 = none):=by have h:=fun (k : Nat) (hk : k < pairT.length)=>new_pair hk; rw [HT.out] at h; exact h
   have HAll : Hid (T ++ pairT = allP):=by show _ = _; rw [<- HT.out]; rfl
   have HPZ:=hid (And.intro pair_nz pair_bd);have HL395 : Hid (T.length + pairT.length = 395):=by have h:=all_lenP; rw [<- HAll.out,List.length_append] at h; exact h
   have hpl:=pair_le
   clear HP4 HB4 HO4 hg4 hgl4 hR4 HBq HR3;generalize pairT = T2 at *;go_loopg [29] T2.length (fun gg i wq=>∃ k : Nat,k <= T2.length ∧ gg = T2.length - k ∧ i = .int .i64 k ∧ Hid (PW wq p w.heap.size u s (T ++ T2.take k) (T.length + k) ∧ Kp w.heap.size u s w4 wq))
   case atStart=>exact ⟨0,Nat.zero_le _,by omega,rfl,by simpa using HP5.out,Kp.refl _ _ _ _⟩
   case round =>
    clear HP5 HG;obtain ⟨k,hk,hg,rfl,H⟩:=hrel
    have HG:=hid hg
    clear hg;by_cases hlt2 : k < T2.length
    ·obtain ⟨e0,e1,e2⟩:=HRR.out.2.1 k hlt2
     have hq:=H.out.2.block g4 HRR.out.1 HRR.out.2.2.1 HRR.out.2.2.2.1 HRR.out.2.2.2.2
     have d0:=(World.cell?_of_block (a:=⟨g4,k * 3,none⟩) hq).trans e0
     have d1:=(World.cell?_of_block (a:=⟨g4,k * 3 + 1,none⟩) hq).trans e1
     have d2:=(World.cell?_of_block (a:=⟨g4,k * 3 + 2,none⟩) hq).trans e2
     have b1 : (0 : Int) <= k ∧ (k : Int) < (T2.length : Int):=by omega
     have hz:=HPZ.out.1 T2[k] (List.getElem_mem hlt2)
     have hbd:=HPZ.out.2 T2[k] (List.getElem_mem hlt2)
     have hnw:=HNP.out k hlt2
     have HTK:=hid (take_snocR T2 k hlt2);have hkl : (T ++ T2.take k).length < 4000:=by rw [List.length_append,List.length_take]; omega
     clear e0 e1 e2 hq HNP HRR;generalize T2[k] = x at *;obtain ⟨x1,x2,x3⟩:=x
     simp only at d0 d1 d2 hz hbd hnw
     have HPa:=hid (H.out.1.step ((Below.refl _ _).alloc (Nat.le_refl _) (.cells #[.int .i32 x1,.int .i32 x2,.int .i32 x3] 76)));have HKa:=hid (H.out.2.trans (Kp.of_below ((Below.refl wr.heap.size wr).alloc (Nat.le_refl _) (.cells #[.int .i32 x1,.int .i32 x2,.int .i32 x3] 76))))
     have HU:=hid (put_any HPa.out hkl hbd.1 hbd.2.1 hbd.2.2 hz hnw);clear H HPa hz hbd hnw;go_wp2_with (go_at_call 42; refine HU.out.mono ?_; rintro e w5 ⟨rfl,hP5,hK5⟩; have HP6:=hid hP5; have HK6:=hid (HKa.out.trans hK5); clear hP5 hK5)
     go_roundg (T2.length - (k + 1))
     case measure=>rw [HG.out]; omega
     case rel=>exact ⟨k + 1,by omega,rfl,by go_num,by rw [HTK.out,<- List.append_assoc]; exact HP6.out,HK6.out⟩
    ·have e : k = T2.length:=by omega
     subst e;have HPf : Hid (PW wr p w.heap.size u s allP 395):=by have h:=H.out.1; rw [List.take_length,HAll.out,HL395.out] at h; exact h
     have HBf : Hid (Below w.heap.size w wr):=HBr.out.trans (H.out.2.below HBr.out.size (Nat.le_refl _) HNE.out.1 HNE.out.2)
     clear H HRR HNP;go_wp2_with fail;go_ret;exact ⟨_,_,_,_,rfl,HPf.out,HBf.out⟩
section
variable {w : World} {p d u s sz : Nat} {L : List R3}
theorem bel_dn {B : Nat} {a w : World} (h : Below B a w) (n : Nat) : Below B a (w.drewN n):=h.trans ⟨rfl,rfl,rfl,Nat.le_refl _,fun _ _=>rfl⟩
theorem down_any (h : PW w p d u s L sz) {r : Int} (hr : I32 r) {x1 x2 x3 : Int} (hx : (dnF L r).getD (0,0,0) = (x1,x2,x3)) :
 Calls Tryz.prog 226 #[.pointer (some ⟨p,0,none⟩),.int .i32 r] w fun e w'=>e = .returned (.tuple #[.int .i32 x1,.int .i32 x2,.int .i64 x3]) ∧ Below w.heap.size w w':=by
 obtain ⟨c0,_,_⟩:=h.cells
 obtain ⟨n,_,hd⟩:=h.dn
 have hlk:=hd.look hr
 clear h hd;rw [hx] at hlk;clear hx;unfold pv at hlk;simp only at hlk
 go_enter Tryz.func226,Tryz.ntmps226
 go_wp2
 go_quiet (fail)
 go_wp2
 go_ret3
 exact ⟨rfl,bel_dn ((Below.refl _ _).alloc (Nat.le_refl _) _) _⟩
theorem up_any (h : PW w p d u s L sz) {a b : Int} (ha : I32 a) (hb : I32 b) {x : Int} {t : Bool} (hx : (upF L (a,b)).getD 0 = x) (ht : (upF L (a,b)).isSome = t) :
 Calls Tryz.prog 223 #[.pointer (some ⟨p,0,none⟩),.int .i32 a,.int .i32 b] w fun e w'=>e = .returned (.tuple #[.int .i32 x,.bool t]) ∧ w' = w:=by
 obtain ⟨_,c1,_⟩:=h.cells
 obtain ⟨n,_,hd⟩:=h.up
 have hlk:=hd.look ha hb
 clear h hd;rw [hx,ht] at hlk;clear hx ht;go_enter Tryz.func223,Tryz.ntmps223
 go_wp2
 go_ret2;exact ⟨rfl,rfl⟩
end
end Go.Proofs.YtkhipgcgcbhjoaaGreat.Pr
namespace Go.Proofs.YtkhipgcgcbhjoaaGreat.Pr
open Go.RowKit Go.Lib Go.Great
abbrev S4:=Int × Int × Int × Int
def spanT : List S4:=[
 (65,90,1,32),(192,214,1,32),(216,222,1,32),(256,302,2,1),(304,304,1,-199),
 (306,310,2,1),(313,327,2,1),(330,374,2,1),(376,376,1,-121),(377,381,2,1),
 (416,416,1,1),(431,431,1,1),(461,475,2,1),(902,902,1,38),(904,906,1,37),
 (908,908,1,64),(910,911,1,63),(913,929,1,32),(931,939,1,32),(1024,1039,1,80),
 (1040,1071,1,32),(7840,7928,2,1),(8486,8486,1,-7517),(8490,8490,1,-8383),(8491,8491,1,-8262),
 (65313,65338,1,32),(66560,66599,1,40)]
def kanaT : List Int:=[
 12530,12449,12451,12453,12455,12457,12515,12517,12519,12483,12540,12450,
 12452,12454,12456,12458,12459,12461,12463,12465,12467,12469,12471,12473,
 12475,12477,12479,12481,12484,12486,12488,12490,12491,12492,12493,12494,
 12495,12498,12501,12504,12507,12510,12511,12512,12513,12514,12516,12518,
 12520,12521,12522,12523,12524,12525,12527,12531,12441,12442]
def c4 (x : S4) : List Value:=[.int .i32 x.1,.int .i32 x.2.1,.int .i32 x.2.2.1,.int .i32 x.2.2.2]
def spC : Array Value:=(spanT.flatMap c4).toArray
def kaC : Array Value:=(kanaT.map fun n=>.int .i32 n).toArray
def z32 (n : Nat) : Array Value:=Array.replicate n (.int .i32 0)
theorem zero_sp (w : World) : (zeroValue 292).run Tryz.prog w = .ok (.agg (z32 108)) w:=by kernel_rfl
theorem zero_ka (w : World) : (zeroValue 294).run Tryz.prog w = .ok (.agg (z32 58)) w:=by kernel_rfl
theorem setRow_new (w : World) (c c' : Array Value) (t : TypeId) : (w.alloc (.cells c t)).setRow w.heap.size c' = w.alloc (.cells c' t):=World.setRow_alloc_new w c c' t
theorem kana_any (w : World) : Calls Tryz.prog 265 #[] w fun e w'=>e = .returned (.agg kaC) ∧ Below w.heap.size w w':=by
 have hz:=zero_ka
 go_enter Tryz.func265,Tryz.ntmps265
 go_wp2_with (first | (refine wpList_buildTo rfl 294 _ rfl (some 1) rfl kaC (by kernel_rfl) ?_) | (refine wpList_store_row rfl 294 (.tmp 0) (.tmp 1) rfl w.heap.size kaC (by exact rfl) (by exact rfl) 294 (z32 58) (heap_alloc_new w _) (by kernel_rfl) (by kernel_rfl) (by kernel_rfl) ?_; rw [setRow_new]))
 exact bodyPost_ret (v:=.agg kaC) (results_cell_row Tryz.results265 _ _ w.heap.size 294 _ (0,0) _ rfl (heap_alloc_new _ _) Tryz.underlying294 rfl (by kernel_rfl)) rfl ⟨rfl,(Below.refl _ _).alloc (Nat.le_refl _) _⟩
theorem spans_any (w : World) : Calls Tryz.prog 264 #[] w fun e w'=>e = .returned (.agg spC) ∧ Below w.heap.size w w':=by
 have hz:=zero_sp
 go_enter Tryz.func264,Tryz.ntmps264
 go_wp2_with (first | (refine wpList_buildTo rfl 292 _ rfl (some 28) rfl spC (by kernel_rfl) ?_) | (refine wpList_store_row rfl 292 (.tmp 0) (.tmp 28) rfl w.heap.size spC (by exact rfl) (by exact rfl) 292 (z32 108) (heap_alloc_new w _) (by kernel_rfl) (by kernel_rfl) (by kernel_rfl) ?_; rw [setRow_new]))
 exact bodyPost_ret (v:=.agg spC) (results_cell_row Tryz.results264 _ _ w.heap.size 292 _ (0,0) _ rfl (heap_alloc_new _ _) Tryz.underlying292 rfl (by kernel_rfl)) rfl ⟨rfl,(Below.refl _ _).alloc (Nat.le_refl _) _⟩
end Go.Proofs.YtkhipgcgcbhjoaaGreat.Pr
namespace Go.Proofs.YtkhipgcgcbhjoaaGreat.Pr
open Go.RowKit Go.Lib
theorem run_index_agg {P : Program} (w : World) (t e : TypeId) (n : Nat) (ty : TypeInfo) (cs : Array Value) (k : IntKind) (i : Nat) (ht : P.underlying t = some (.array n e)) (hi : P.info? e = some ty) (h : i < n) :
 (Instr.index t (.agg cs) (.int k (i : Int))).run P w = (part e cs (i * ty.size)).run P w:=by
 simp [Instr.index,asIntOf,run_underlying ht,sizeOf,typeInfo,hi]
 intro hn
 omega
theorem c4_cut : ∀ (l : List S4) (k : Nat) (h : k < l.length),((l.flatMap c4).drop (k * 4)).take 4 = c4 l[k]
 | [],_,h=>by simp at h
 | x :: l,0,_=>by simp [c4]
 | x :: l,k + 1,h=>by
  have ih:=c4_cut l k (by simpa using h)
  rw [List.flatMap_cons,List.drop_append,show (k + 1) * 4 - (c4 x).length = k * 4 by simp [c4]; omega,List.drop_of_length_le (by simp [c4]; omega),List.nil_append]
  exact ih
theorem index_span (w : World) (k : Nat) (h : k < 27) (h' : k < spanT.length) : (Instr.index 292 (.agg spC) (.int .i64 (k : Int))).run Tryz.prog w = .ok (.agg #[.int .i32 spanT[k].1,.int .i32 spanT[k].2.1,.int .i32 spanT[k].2.2.1,.int .i32 spanT[k].2.2.2]) w:=by
 have hs : (Tryz.prog.info? 291).map (fun i=>i.size) = some 4:=by kernel_rfl
 obtain ⟨i,hi,hz⟩:=Option.map_eq_some_iff.1 hs
 rw [run_index_agg w 292 291 27 i spC .i64 k Tryz.underlying292 hi h,hz];have e : spC.extract (k * 4) (k * 4 + 4) = #[.int .i32 spanT[k].1,.int .i32 spanT[k].2.1,.int .i32 spanT[k].2.2.1,.int .i32 spanT[k].2.2.2]:=by
  apply Array.ext'
  rw [Array.toList_extract,List.extract];show ((spanT.flatMap c4).drop (k * 4)).take (k * 4 + 4 - k * 4) = _
  rw [show k * 4 + 4 - k * 4 = 4 by omega,c4_cut spanT k h']
  rfl
 simp [part,isAgg,run_underlying Tryz.underlying291,sizeOf,typeInfo,hi,hz,e]
theorem index_kana (w : World) (k : Nat) (h : k < 58) (h' : k < kanaT.length) : (Instr.index 294 (.agg kaC) (.int .i32 (k : Int))).run Tryz.prog w = .ok (.int .i32 kanaT[k]) w:=by
 have hs : (Tryz.prog.info? 21).map (fun i=>i.size) = some 1:=by kernel_rfl
 obtain ⟨i,hi,hz⟩:=Option.map_eq_some_iff.1 hs
 rw [run_index_agg w 294 21 58 i kaC .i32 k Tryz.underlying294 hi h,hz,Nat.mul_one];have e : kaC[k]? = some (.int .i32 kanaT[k]):=by unfold kaC;simp [h']
 simp [part,isAgg,run_underlying Tryz.underlying21,e]
def lowP (r : Int) : List S4 -> Int
 | []=>r
 | x :: xs=>if x.1 <= r ∧ r <= x.2.1 ∧ (r - x.1) % x.2.2.1 = 0 then r + x.2.2.2 else lowP r xs
def widP (r : Int) : Int :=
 if 65281 <= r ∧ r <= 65374 then r - 65281 + 33 else if r = 65377 then 12290 else if r = 65381 then 12539 else if 65382 <= r ∧ r <= 65439 then kanaT.getD (r - 65382).toNat 0 else r
def spanOk (x : S4) : Bool:=decide (0 <= x.1 ∧ x.1 <= 70000 ∧ 0 <= x.2.1 ∧ x.2.1 <= 70000 ∧ 1 <= x.2.2.1 ∧ x.2.2.1 <= 2 ∧ -10000 <= x.2.2.2 ∧ x.2.2.2 <= 10000)
theorem span_all : spanT.all spanOk = true:=by kernel_rfl
theorem span_bd (x : S4) (h : x ∈ spanT) : 0 <= x.1 ∧ x.1 <= 70000 ∧ 0 <= x.2.1 ∧ x.2.1 <= 70000 ∧ 1 <= x.2.2.1 ∧ x.2.2.1 <= 2 ∧ -10000 <= x.2.2.2 ∧ x.2.2.2 <= 10000:=by
 have h1:=List.all_eq_true.1 span_all x h
 unfold spanOk at h1;have h2:=of_decide_eq_true h1
 exact h2
theorem span_len : spanT.length = 27:=rfl
theorem low_any (r : Int) (w : World) (hr : I32 r) : Calls Tryz.prog 207 #[.int .i32 r] w fun e w'=>e = .returned (.int .i32 (lowP r spanT)) ∧ Below w.heap.size w w':=by
 obtain ⟨r0,r1⟩:=hr
 have HS:=hid (spans_any w);have HI:=hid index_span
 have HB0:=hid span_bd
 have HLn:=hid span_len
 have h27 : spanT.length <= 27:=by rw [span_len]; decide
 generalize spC = A at *;generalize spanT = T at *;go_enter Tryz.func207,Tryz.ntmps207
 go_wp2_with fail;refine HS.out.mono ?_;rintro e w1 ⟨rfl,hb1⟩;have HB1:=hid hb1
 clear hb1 HS;go_wp2_with fail;go_loopg [6] 27 (fun g i wr=>∃ k : Nat,k <= 27 ∧ g = 27 - k ∧ i = .int .i64 k ∧ Hid (lowP r T = lowP r (T.drop k)) ∧ Hid (Below w.heap.size w wr))
 case atStart=>exact ⟨0,by omega,by omega,rfl,rfl,HB1.out⟩
 case round =>
  clear HB1;obtain ⟨k,hk,hg,rfl,H,HB⟩:=hrel
  have HG:=hid hg
  clear hg;by_cases hlt : k < 27
  ·have hlT : k < T.length:=by have:=HLn.out; omega
   have hix:=fun w=>HI.out w k hlt hlT
   have ⟨e0,e1,e2,e3,e4,e5,e6,e7⟩:=HB0.out T[k] (List.getElem_mem hlT)
   have H2 : Hid (lowP r T = if T[k].1 <= r ∧ r <= T[k].2.1 ∧ (r - T[k].1) % T[k].2.2.1 = 0 then r + T[k].2.2.2 else lowP r (T.drop (k + 1))):=by show _ = _;rw [H.out,List.drop_eq_getElem_cons hlT]; rfl
   have HBA:=hid (fun o=>HB.out.alloc HB.out.size o)
   clear HI HB0 H HB;generalize T[k] = x at *;obtain ⟨x1,x2,x3,x4⟩:=x
   simp only at hix e0 e1 e2 e3 e4 e5 e6 e7 H2
   by_cases h1 : x1 <= r
   ·by_cases h2 : r <= x2
    ·by_cases h3 : (r - x1) % x3 = 0
     ·have H3 : Hid (lowP r T = r + x4):=by show _ = _; rw [H2.out,if_pos ⟨h1,h2,h3⟩]
      go_wp2_with fail;go_ret;exact ⟨ret_int H3.out.symm,HBA.out _⟩
     ·have H3 : Hid (lowP r T = lowP r (T.drop (k + 1))):=by show _ = _; rw [H2.out,if_neg (fun h=>h3 h.2.2)]
      have h3' : ((r - x1) % x3 == 0) = false:=by simpa using h3
      go_wp2_with fail;go_roundg (27 - (k + 1))
      case measure=>rw [HG.out]; omega
      case rel=>exact ⟨k + 1,by omega,rfl,by go_num,H3.out,HBA.out _⟩
    ·have H3 : Hid (lowP r T = lowP r (T.drop (k + 1))):=by show _ = _; rw [H2.out,if_neg (fun h=>h2 h.2.1)]
     go_wp2_with fail;go_roundg (27 - (k + 1))
     case measure=>rw [HG.out]; omega
     case rel=>exact ⟨k + 1,by omega,rfl,by go_num,H3.out,HBA.out _⟩
   ·have H3 : Hid (lowP r T = lowP r (T.drop (k + 1))):=by show _ = _; rw [H2.out,if_neg (fun h=>h1 h.1)]
    go_wp2_with fail;go_roundg (27 - (k + 1))
    case measure=>rw [HG.out]; omega
    case rel=>exact ⟨k + 1,by omega,rfl,by go_num,H3.out,HBA.out _⟩
  ·have H3 : Hid (lowP r T = r):=by show _ = _; rw [H.out,List.drop_of_length_le (by omega)]; rfl
   go_wp2_with fail;go_ret;exact ⟨ret_int H3.out.symm,HB.out⟩
theorem wid_any (r : Int) (w : World) (hr : I32 r) : Calls Tryz.prog 208 #[.int .i32 r] w fun e w'=>e = .returned (.int .i32 (widP r)) ∧ Below w.heap.size w w':=by
 obtain ⟨r0,r1⟩:=hr
 have HK:=hid (kana_any w);have hok:=Ok.start w
 by_cases h1 : 65281 <= r ∧ r <= 65374
 ·have H : Hid (widP r = r - 65281 + 33):=if_pos h1
  obtain ⟨h1,h2⟩:=h1
  go_enter Tryz.func208,Tryz.ntmps208
  go_wp2_with fail;go_ret;exact ⟨ret_int H.out.symm,hok.1⟩
 by_cases h2 : r = 65377
 ·have H : Hid (widP r = 12290):=by subst h2; rfl
  clear h1;subst h2;go_enter Tryz.func208,Tryz.ntmps208
  go_wp2_with fail;go_ret;exact ⟨ret_int H.out.symm,hok.1⟩
 by_cases h3 : r = 65381
 ·have H : Hid (widP r = 12539):=by subst h3; rfl
  clear h1 h2;subst h3;go_enter Tryz.func208,Tryz.ntmps208
  go_wp2_with fail;go_ret;exact ⟨ret_int H.out.symm,hok.1⟩
 by_cases h4 : 65382 <= r ∧ r <= 65439
 ·obtain ⟨k,hk⟩ : ∃ k : Nat,r - 65382 = k:=⟨(r - 65382).toNat,by omega⟩
  have hk1 : k < 58:=by omega
  have hk2 : k < kanaT.length:=hk1
  have H : Hid (widP r = kanaT[k]):=by
   show widP r = _
   unfold widP;rw [if_neg h1,if_neg h2,if_neg h3,if_pos h4,hk,Int.toNat_natCast,List.getD_eq_getElem?_getD,List.getElem?_eq_getElem hk2]; rfl
  have hix:=fun w=>index_kana w k hk1 hk2
  obtain ⟨h5,h6⟩:=h4
  have h7 : ¬ r <= 65374:=by omega
  have h8 : 65281 <= r:=by omega
  clear h1;generalize kanaT[k] = v at *;generalize kaC = A at *;go_enter Tryz.func208,Tryz.ntmps208
  go_wp2_with (go_at_call 265; refine HK.out.mono ?_; rintro e w1 ⟨rfl,hb1⟩; replace hok:=hok.step hb1; clear hb1)
  go_ret;exact ⟨ret_int H.out.symm,hok.1⟩
 ·have H : Hid (widP r = r):=by show widP r = r; unfold widP; rw [if_neg h1,if_neg h2,if_neg h3,if_neg h4]
  have hc : r < 65281 ∨ (65281 <= r ∧ 65374 < r ∧ r < 65382) ∨ (65382 <= r ∧ 65439 < r):=by omega
  have h2' : (r == 65377) = false:=by simpa using h2
  have h3' : (r == 65381) = false:=by simpa using h3
  clear h1 h4;rcases hc with h | ⟨h,h',h''⟩ | ⟨h,h'⟩
  all_goals
   go_enter Tryz.func208,Tryz.ntmps208
   go_wp2_with fail;go_ret;exact ⟨ret_int H.out.symm,hok.1⟩
theorem cell_new (w : World) (cs : Array Value) (t : TypeId) (b j : Nat) (hb : b = w.heap.size) : (w.alloc (.cells cs t)).cell? ⟨b,j,none⟩ = cs[j]?:=by
 have h:=heap_alloc_new w (.cells cs t)
 subst hb;unfold World.cell?
 rw [h]; rfl
end Go.Proofs.YtkhipgcgcbhjoaaGreat.Pr
