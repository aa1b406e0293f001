import Derived.Test.YthdchapieninbabBase
import Derived.BigRegion
import Derived.BigQuiet
import Derived.Deep.QuietTactic
import Derived.Deep.RegionWith
import Derived.Deep.AppendSrc
import Derived.Laws.AppendOwn
import Derived.Lib.OthersKept
import Derived.WalkSmall
namespace Go.Proofs.Ythdchapieninbab
open Go.RowKit

theorem hid {p : Prop} (h : p) : Hid p := h

def u8s (l : List UInt8) : List Value := l.map fun x => .int .u8 (x.toNat : Int)

/-- What a buffer's slice leads to: nothing, or a row of bytes of the call's own, beside the buffer's own block. -/
def Kept (w : World) (B b : Nat) (l : List UInt8) (ao : Option Addr) (cap : Nat) : Prop :=
  (ao = none ∧ l = [] ∧ cap = 0) ∨ ∃ g cur, ao = some ⟨g, 0, none⟩ ∧ B ≤ g ∧ g ≠ b ∧ w.heap[g]? = some (.cells cur 5 (0, 0)) ∧ l.length ≤ cap ∧ cap ≤ cur.size ∧ cap ≤ maxLen ∧ cur.toList.take l.length = u8s l

theorem Kept.len {w : World} {B b : Nat} {l : List UInt8} {ao : Option Addr} {cap : Nat} (h : Kept w B b l ao cap) : l.length ≤ cap ∧ cap ≤ maxLen := by
  rcases h with ⟨_, rfl, rfl⟩ | ⟨g, cur, _, _, _, _, h1, _, h2, _⟩
  · exact ⟨Nat.le_refl _, Nat.zero_le _⟩
  · exact ⟨h1, h2⟩

theorem Kept.take {w w' : World} {B b : Nat} {l : List UInt8} {ao : Option Addr} {cap : Nat} (h : Kept w B b l ao cap) (hw : ∀ g, g ≠ b → w'.heap[g]? = w.heap[g]?) (n c : Nat) (hn : n ≤ l.length) (hc : n ≤ c) (hcc : c ≤ cap) : Kept w' B b (l.take n) ao c := by
  rcases h with ⟨h1, rfl, rfl⟩ | ⟨g, cur, h1, h2, h3, h4, h5, h6, h7, h8⟩
  · exact .inl ⟨h1, by simp, by omega⟩
  · refine .inr ⟨g, cur, h1, h2, h3, by rw [hw g h3]; exact h4, ?_, by omega, by omega, ?_⟩
    · rw [List.length_take]; omega
    · have e : (l.take n).length = n := by rw [List.length_take]; omega
      rw [e]
      have h9 := congrArg (List.take n) h8
      rw [List.take_take, Nat.min_eq_left hn] at h9
      rw [h9]; simp [u8s, List.map_take]

/-- A buffer's parts, its slice told. -/
structure BufP (B b : Nat) (l : List UInt8) (room : Nat) (full : Bool) (ao : Option Addr) (cap : Nat) (w : World) : Prop where
  above : B ≤ b
  fits : l.length ≤ room
  most : room ≤ 1048576
  block : w.heap[b]? = some (.cells #[.slice ao l.length cap, .int .i64 room, .bool full] 44)
  kept : Kept w B b l ao cap

/-- A buffer that has these bytes, so much room, and is full or isn't. -/
def Buf (B b : Nat) (l : List UInt8) (room : Nat) (full : Bool) (w : World) : Prop := ∃ ao cap, BufP B b l room full ao cap w

theorem BufP.cells {B b : Nat} {l : List UInt8} {room : Nat} {full : Bool} {ao : Option Addr} {cap : Nat} {w : World} (h : BufP B b l room full ao cap w) :
    w.cell? ⟨b, 0, none⟩ = some (.slice ao l.length cap) ∧ w.cell? ⟨b, 1, none⟩ = some (.int .i64 room) ∧ w.cell? ⟨b, 2, none⟩ = some (.bool full) ∧ (∀ o, w.frozen? ⟨b, o, none⟩ = false) := by
  have hb := h.block
  simp [World.cell?, World.frozen?, hb]

theorem BufP.slice {B b : Nat} {l : List UInt8} {room : Nat} {full : Bool} {ao : Option Addr} {cap : Nat} {w : World} (h : BufP B b l room full ao cap w) (n c : Nat) (hn : n ≤ l.length) (hc : n ≤ c) (hcc : c ≤ cap) :
    Buf B b (l.take n) room full (w.setCell ⟨b, 0, none⟩ (.slice ao n c)) := by
  have hf := h.fits
  have e : (l.take n).length = n := by rw [List.length_take]; omega
  refine ⟨ao, c, h.above, by omega, h.most, ?_, h.kept.take (fun g hg => Below.heap_setCell _ _ _ _ hg) n c hn hc hcc⟩
  rw [e]
  have hb := h.block
  simp [World.setCell, Array.getElem?_modify, hb]

theorem BufP.full' {B b : Nat} {l : List UInt8} {room : Nat} {full : Bool} {ao : Option Addr} {cap : Nat} {w : World} (h : BufP B b l room full ao cap w) (f : Bool) :
    BufP B b l room f ao cap (w.setCell ⟨b, 2, none⟩ (.bool f)) := by
  refine ⟨h.above, h.fits, h.most, ?_, ?_⟩
  · have hb := h.block
    simp [World.setCell, Array.getElem?_modify, hb]
  · have := h.kept
    rcases this with h1 | ⟨g, cur, h1, h2, h3, h4, h5⟩
    · exact .inl h1
    · exact .inr ⟨g, cur, h1, h2, h3, by rw [Below.heap_setCell _ _ _ _ h3]; exact h4, h5⟩

theorem BufP.drew {B b : Nat} {l : List UInt8} {room : Nat} {full : Bool} {ao : Option Addr} {cap : Nat} {w : World} (h : BufP B b l room full ao cap w) : BufP B b l room full ao cap w.drew := ⟨h.above, h.fits, h.most, h.block, h.kept⟩
theorem Buf.drew {B b : Nat} {l : List UInt8} {room : Nat} {full : Bool} {w : World} (h : Buf B b l room full w) : Buf B b l room full w.drew := by
  obtain ⟨ao, cap, h⟩ := h; exact ⟨ao, cap, h.drew⟩

/-- What a call on the buffer in block b may turn: that block, rows of bytes beyond B, and new memory. -/
def Turn (B b : Nat) (w w' : World) : Prop := Below B w w' ∧ Lib.OthersKept 5 (some b) w w'
theorem Turn.refl (B b : Nat) (w : World) : Turn B b w w := ⟨Below.refl _ _, Lib.OthersKept.refl _ _ _⟩
theorem Turn.trans {B b : Nat} {u v w : World} (h : Turn B b u v) (k : Turn B b v w) : Turn B b u w := ⟨h.1.trans k.1, h.2.trans k.2⟩
theorem Turn.drew {B b : Nat} {u v : World} (h : Turn B b u v) : Turn B b u v.drew := ⟨h.1.drew, h.2.drew⟩
theorem Turn.drewN {B b : Nat} {u v : World} (h : Turn B b u v) (n : Nat) : Turn B b u (v.drewN n) := ⟨below_drewN h.1 n, h.2⟩
theorem Turn.alloc {B b : Nat} {u v : World} (h : Turn B b u v) (hB : B ≤ v.heap.size) (o : Obj) : Turn B b u (v.alloc o) := ⟨h.1.alloc hB o, h.2.alloc o⟩
theorem Turn.setCell {B b : Nat} {u v : World} (h : Turn B b u v) (hB : B ≤ b) (o : Nat) (x : Value) : Turn B b u (v.setCell ⟨b, o, none⟩ x) := ⟨h.1.setCell (p := ⟨b, o, none⟩) hB x, h.2.setCell ⟨b, o, none⟩ rfl x⟩
theorem Turn.block {B b k : Nat} {u v : World} {o : Obj} (h : Turn B b u v) (hk : u.heap[k]? = some o) (hb : k ≠ b) (ho : ∀ c fz, o ≠ .cells c 5 fz) : v.heap[k]? = some o := h.2 k o hk (by simpa using hb) ho
end Go.Proofs.Ythdchapieninbab
