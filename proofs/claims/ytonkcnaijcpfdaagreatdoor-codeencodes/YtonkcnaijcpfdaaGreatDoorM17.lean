/- A reader in memory: the contracts of package octet's reader, but for Take. -/
import Derived.Test.YtonkcnaijcpfdaaGreatDoorM15
namespace Go.Proofs.YtonkcnaijcpfdaaGreatDoor.octet
open Go.ChangeShapes Go.WideShapes Go.ChangeAt Go.RowKit
open wrapped
set_option linter.unusedVariables false
/-- A struct of a list of bytes and a place, as block b of type t. -/
def Rd (w : World) (b : Nat) (t : TypeId) (S : Value) (k : Int) : Prop := w.heap[b]? = some (.cells #[S, .int .i64 k] t (0, 0))
abbrev rp (b : Nat) : Value := .pointer (some ⟨b, 0, none⟩)
theorem Rd.c0 {w : World} {b : Nat} {t : TypeId} {S : Value} {k : Int} (h : Rd w b t S k) : w.cell? ⟨b, 0, none⟩ = some S := by rw [cell_of_row w b 0 _ t (0, 0) h]; rfl
theorem Rd.c1 {w : World} {b : Nat} {t : TypeId} {S : Value} {k : Int} (h : Rd w b t S k) : w.cell? ⟨b, 1, none⟩ = some (.int .i64 k) := by rw [cell_of_row w b 1 _ t (0, 0) h]; rfl
theorem Rd.fz {w : World} {b : Nat} {t : TypeId} {S : Value} {k : Int} (h : Rd w b t S k) (j : Nat) : w.frozen? ⟨b, j, none⟩ = false := frozen_of_row w b j _ t h
theorem Rd.lt {w : World} {b : Nat} {t : TypeId} {S : Value} {k : Int} (h : Rd w b t S k) : b < w.heap.size := (Array.getElem?_eq_some_iff.mp h).1
theorem Rd.set {w : World} {b : Nat} {t : TypeId} {S : Value} {k : Int} (h : Rd w b t S k) (k' : Int) : Rd (w.setCell ⟨b, 1, none⟩ (.int .i64 k')) b t S k' := heap_setCell_same w b 1 _ t _ h
theorem Rd.other {w : World} {b c : Nat} {t : TypeId} {S : Value} {k : Int} (h : Rd w b t S k) (hc : b ≠ c) (j : Nat) (v : Value) : Rd (w.setCell ⟨c, j, none⟩ v) b t S k := (heap_setCell_other w ⟨c, j, none⟩ b v hc).trans h
theorem Rd.later {w w' : World} {b : Nat} {t : TypeId} {S : Value} {k : Int} (h : Rd w b t S k) (hb : Below w.heap.size w w') : Rd w' b t S k := (hb.block b h.lt).trans h
theorem at_any (b : Nat) (S : Value) (k : Int) (w : World) (h : Rd w b 129 S k) : Calls Tryz.prog 101 #[rp b] w fun e w' => e = .returned (.int .i64 k) ∧ w' = w := by
  have c1 := h.c1
  clear h
  go_enter Tryz.func101, Tryz.ntmps101
  go_wp2
  go_ret
  exact ⟨rfl, rfl⟩
theorem all_any (b : Nat) (a : Option Addr) (n c : Nat) (k : Int) (w : World) (h : Rd w b 129 (.slice a n c) k) : Calls Tryz.prog 115 #[rp b] w fun e w' => e = .returned (.slice a n c) ∧ w' = w := by
  have c0 := h.c0
  clear h
  go_enter Tryz.func115, Tryz.ntmps115
  go_wp2
  go_ret
  exact ⟨rfl, rfl⟩
theorem left_any (b : Nat) (a : Option Addr) (n c k : Nat) (w : World) (h : Rd w b 129 (.slice a n c) k) (hk : k ≤ n) (hn : (n : Int) ≤ 9223372036854775807) : Calls Tryz.prog 92 #[rp b] w fun e w' => e = .returned (.int .i64 ((n : Int) - (k : Int))) ∧ w' = w := by
  have cA := all_any b a n c k w h
  have cT := at_any b _ k w h
  have hkI : (k : Int) ≤ n := by omega
  clear h hk
  go_enter Tryz.func92, Tryz.ntmps92
  go_wp2_with (first | (go_at_call 115; with_reducible refine cA.mono ?_; rintro e w' ⟨rfl, hw⟩; replace hw := hw.symm; subst hw) | (go_at_call 101; with_reducible refine cT.mono ?_; rintro e w' ⟨rfl, hw⟩; replace hw := hw.symm; subst hw))
  go_ret
  exact ⟨rfl, rfl⟩
/-- What End tells. -/
def endOf (n k : Nat) : Int := if k < n then 13 else 0
theorem end_any (b : Nat) (a : Option Addr) (n c k : Nat) (w : World) (h : Rd w b 129 (.slice a n c) k) (hk : k ≤ n) (hn : (n : Int) ≤ 9223372036854775807) : Calls Tryz.prog 72 #[rp b] w fun e w' => e = .returned (.int .i64 (endOf n k)) ∧ w' = w := by
  have cL := left_any b a n c k w h hk hn
  unfold endOf
  by_cases hlt : k < n
  · rw [if_pos hlt]
    have hd : (0 : Int) < (n : Int) - (k : Int) := by omega
    clear h hk
    go_enter Tryz.func72, Tryz.ntmps72
    go_wp2_with (go_at_call 92; with_reducible refine cL.mono ?_; rintro e w' ⟨rfl, hw⟩; replace hw := hw.symm; subst hw)
    go_ret
    exact ⟨rfl, rfl⟩
  · rw [if_neg hlt]
    have hd : (n : Int) - (k : Int) ≤ 0 := by omega
    clear h hk
    go_enter Tryz.func72, Tryz.ntmps72
    go_wp2_with (go_at_call 92; with_reducible refine cL.mono ?_; rintro e w' ⟨rfl, hw⟩; replace hw := hw.symm; subst hw)
    go_ret
    exact ⟨rfl, rfl⟩
theorem uint_err (b : Nat) (a : Option Addr) (n c k : Nat) (f : Nat → Nat) (w : World) (h : Rd w b 129 (.slice a n c) k) (hr : Row w a n f) (X E R : Int) (hG : gotten f n k = (X, E, R)) (hR : ¬ R = 0) (hk : k ≤ n) :
    Calls Tryz.prog 117 #[rp b] w fun e w' => e = .returned (.tuple #[.int .u64 0, .int .i64 R]) ∧ w' = w := by
  have cA := all_any b a n c k w h
  have cT := at_any b _ k w h
  have cG := get_any a n c k f w hr X E R hG (by omega) (by have := hr.1; omega)
  have hR1 : (R != 0) = true := by simpa using hR
  clear h hr hG hk
  go_enter Tryz.func117, Tryz.ntmps117
  go_wp2_with (first | (go_at_call 115; with_reducible refine cA.mono ?_; rintro e w' ⟨rfl, hw⟩; replace hw := hw.symm; subst hw) | (go_at_call 101; with_reducible refine cT.mono ?_; rintro e w' ⟨rfl, hw⟩; replace hw := hw.symm; subst hw) | (go_at_call 127; with_reducible refine cG.mono ?_; rintro e w' ⟨rfl, hw⟩; replace hw := hw.symm; subst hw))
  go_ret2
  exact ⟨rfl, rfl⟩
theorem uint_ok (b : Nat) (a : Option Addr) (n c k : Nat) (f : Nat → Nat) (w : World) (h : Rd w b 129 (.slice a n c) k) (hr : Row w a n f) (X E : Int) (hG : gotten f n k = (X, E, 0)) (hk : k ≤ n) :
    Calls Tryz.prog 117 #[rp b] w fun e w' => e = .returned (.tuple #[.int .u64 X, .int .i64 0]) ∧ w' = w.setCell ⟨b, 1, none⟩ (.int .i64 E) := by
  have cA := all_any b a n c k w h
  have cT := at_any b _ k w h
  have cG := get_any a n c k f w hr X E 0 hG (by omega) (by have := hr.1; omega)
  have c1 := h.c1
  have fz := h.fz 1
  clear h hr hG hk
  go_enter Tryz.func117, Tryz.ntmps117
  go_wp2_with (first | (go_at_call 115; with_reducible refine cA.mono ?_; rintro e w' ⟨rfl, hw⟩; replace hw := hw.symm; subst hw) | (go_at_call 101; with_reducible refine cT.mono ?_; rintro e w' ⟨rfl, hw⟩; replace hw := hw.symm; subst hw) | (go_at_call 127; with_reducible refine cG.mono ?_; rintro e w' ⟨rfl, hw⟩; replace hw := hw.symm; subst hw))
  go_ret2
  exact ⟨rfl, rfl⟩
theorem int_err (b : Nat) (a : Option Addr) (n c k : Nat) (f : Nat → Nat) (w : World) (h : Rd w b 129 (.slice a n c) k) (hr : Row w a n f) (X E R : Int) (hG : gotten f n k = (X, E, R)) (hR : ¬ R = 0) (hk : k ≤ n) :
    Calls Tryz.prog 116 #[rp b] w fun e w' => e = .returned (.tuple #[.int .i64 0, .int .i64 R]) ∧ w' = w := by
  have cU := uint_err b a n c k f w h hr X E R hG hR hk
  have cZ : ∀ w, Calls Tryz.prog 126 #[.int .u64 0] w fun e w' => e = .returned (.int .i64 0) ∧ w' = w := zag_any 0 (by decide) (by decide)
  clear h hr hG hk
  go_enter Tryz.func116, Tryz.ntmps116
  go_wp2_with (first | (go_at_call 117; with_reducible refine cU.mono ?_; rintro e w' ⟨rfl, hw⟩; replace hw := hw.symm; subst hw) | (go_at_call 126; with_reducible refine (cZ _).mono ?_; rintro e w' ⟨rfl, hw⟩; replace hw := hw.symm; subst hw))
  go_ret2
  exact ⟨rfl, rfl⟩
theorem int_ok (b : Nat) (a : Option Addr) (n c k : Nat) (f : Nat → Nat) (w : World) (h : Rd w b 129 (.slice a n c) k) (hr : Row w a n f) (X E Y : Int) (hG : gotten f n k = (X, E, 0)) (hY : zb X = Y) (hk : k ≤ n) :
    Calls Tryz.prog 116 #[rp b] w fun e w' => e = .returned (.tuple #[.int .i64 Y, .int .i64 0]) ∧ w' = w.setCell ⟨b, 1, none⟩ (.int .i64 E) := by
  have cU := uint_ok b a n c k f w h hr X E hG hk
  obtain ⟨b0, b1⟩ := gotten_bd f hr.2.1 n k X E 0 hG
  have cZ := zag_any X b0 b1
  rw [hY] at cZ
  generalize w.setCell ⟨b, 1, none⟩ (.int .i64 E) = W at *
  clear h hr hG hk hY
  go_enter Tryz.func116, Tryz.ntmps116
  go_wp2_with (first | (go_at_call 117; with_reducible refine cU.mono ?_; rintro e w' ⟨rfl, hw⟩; replace hw := hw.symm; subst hw) | (go_at_call 126; with_reducible refine (cZ _).mono ?_; rintro e w' ⟨rfl, hw⟩; replace hw := hw.symm; subst hw))
  go_ret2
  exact ⟨rfl, rfl⟩
end Go.Proofs.YtonkcnaijcpfdaaGreatDoor.octet
/- The reader of package code in memory: its block, and its parts that read numbers. -/
namespace Go.Proofs.YtonkcnaijcpfdaaGreatDoor.pg
open Go.ChangeShapes Go.WideShapes Go.ChangeAt Go.RowKit
set_option linter.unusedVariables false
set_option linter.unusedSimpArgs false
set_option maxRecDepth 100000
/-- Nothing but the reader's two blocks has changed, and what is new. -/
structure Fr (r q : Nat) (w w' : World) : Prop where
  os : w'.os = w.os
  tape : w'.tape = w.tape
  output : w'.output = w.output
  size : w.heap.size ≤ w'.heap.size
  block : ∀ b, b < w.heap.size → b ≠ r → b ≠ q → w'.heap[b]? = w.heap[b]?
theorem Fr.refl (r q : Nat) (w : World) : Fr r q w w := ⟨rfl, rfl, rfl, Nat.le_refl _, fun _ _ _ _ => rfl⟩
theorem Fr.trans {r q : Nat} {a b c : World} (h : Fr r q a b) (k : Fr r q b c) : Fr r q a c := ⟨k.os.trans h.os, k.tape.trans h.tape, k.output.trans h.output, Nat.le_trans h.size k.size, fun x h1 h2 h3 => (k.block x (Nat.lt_of_lt_of_le h1 h.size) h2 h3).trans (h.block x h1 h2 h3)⟩
theorem Fr.of {r q : Nat} {w w' : World} (h : Below w.heap.size w w') : Fr r q w w' := ⟨h.os, h.tape, h.output, h.size, fun b hb _ _ => h.block b hb⟩
theorem Fr.setr (r q : Nat) (w : World) (j : Nat) (v : Value) : Fr r q w (w.setCell ⟨r, j, none⟩ v) := by
  have hb := (Below.refl 0 w).setCell (p := ⟨r, j, none⟩) (Nat.zero_le _) v
  exact ⟨hb.os, hb.tape, hb.output, hb.size, fun b _ h1 _ => heap_setCell_other _ _ _ _ h1⟩
theorem Fr.setq (r q : Nat) (w : World) (j : Nat) (v : Value) : Fr r q w (w.setCell ⟨q, j, none⟩ v) := by
  have hb := (Below.refl 0 w).setCell (p := ⟨q, j, none⟩) (Nat.zero_le _) v
  exact ⟨hb.os, hb.tape, hb.output, hb.size, fun b _ _ h1 => heap_setCell_other _ _ _ _ h1⟩
theorem Fr.below {r q lo : Nat} {w w' : World} (h : Fr r q w w') (h1 : lo ≤ r) (h2 : lo ≤ q) (h3 : lo ≤ w.heap.size) : Below lo w w' := ⟨h.os, h.tape, h.output, h.size, fun b hb => h.block b (by omega) (by omega) (by omega)⟩
theorem row_keep {w w' : World} {a : Option Addr} {n : Nat} {f : Nat → Nat} (h : octet.Row w a n f) (hk : ∀ b ∈ blk a, w'.heap[b]? = w.heap[b]?) : octet.Row w' a n f := by
  refine ⟨h.1, h.2.1, h.2.2.imp_right fun ⟨b, off, ha, hc⟩ => ⟨b, off, ha, fun i hi => ?_⟩⟩
  have := hk b (by rw [ha]; simp [blk])
  rw [← hc i hi]
  simp [World.cell?, this]
/-- The reader stands so. -/
structure RdS (w : World) (r q : Nat) (ba : Option Addr) (bc n : Nat) (f : Nat → Nat) (s : RS) : Prop where
  bx : w.heap[r]? = some (.cells #[.pointer (some ⟨q, 0, none⟩), .int .i64 s.e, .int .i64 (s.at_ : Int)] 106 (0, 0))
  rd : octet.Rd w q 129 (.slice ba n bc) s.k
  row : octet.Row w ba n f
  bl : ∀ b ∈ blk ba, b ≠ r ∧ b ≠ q ∧ b < w.heap.size
  le : s.k ≤ n
  nn : n ≤ 65536
section
variable {w w' : World} {r q bc n : Nat} {ba : Option Addr} {f : Nat → Nat} {s : RS}
theorem RdS.ne (h : RdS w r q ba bc n f s) : r ≠ q := fun e => by
  have h1 := h.bx
  have h2 := h.rd
  unfold octet.Rd at h2
  rw [e, h2] at h1
  simp at h1
theorem RdS.keep (h : RdS w r q ba bc n f s) (hk : ∀ b, b = r ∨ b = q ∨ b ∈ blk ba → w'.heap[b]? = w.heap[b]?) (hs : w.heap.size ≤ w'.heap.size) : RdS w' r q ba bc n f s :=
  ⟨(hk r (.inl rfl)).trans h.bx, (hk q (.inr (.inl rfl))).trans h.rd, row_keep h.row fun b hb => hk b (.inr (.inr hb)), fun b hb => ⟨(h.bl b hb).1, (h.bl b hb).2.1, Nat.lt_of_lt_of_le (h.bl b hb).2.2 hs⟩, h.le, h.nn⟩
theorem RdS.ltr (h : RdS w r q ba bc n f s) : r < w.heap.size := (Array.getElem?_eq_some_iff.mp h.bx).1
theorem RdS.ltq (h : RdS w r q ba bc n f s) : q < w.heap.size := h.rd.lt
theorem RdS.later (h : RdS w r q ba bc n f s) (hb : Below w.heap.size w w') : RdS w' r q ba bc n f s :=
  h.keep (fun b hh => hb.block b (by rcases hh with e | e | e; exact e ▸ h.ltr; exact e ▸ h.ltq; exact (h.bl b e).2.2)) hb.size
theorem RdS.setE (h : RdS w r q ba bc n f s) (e : Int) : RdS (w.setCell ⟨r, 1, none⟩ (.int .i64 e)) r q ba bc n f ⟨s.k, e, s.at_⟩ := by
  refine ⟨?_, (heap_setCell_other _ _ _ _ (fun e => h.ne e.symm)).trans h.rd, row_keep h.row fun b hb => heap_setCell_other _ _ _ _ (h.bl b hb).1, fun b hb => by rw [World.size_setCell]; exact h.bl b hb, h.le, h.nn⟩
  have := heap_setCell_same w r 1 _ _ (.int .i64 e) h.bx
  rw [this]; simp
theorem RdS.setA (h : RdS w r q ba bc n f s) (a : Nat) : RdS (w.setCell ⟨r, 2, none⟩ (.int .i64 (a : Int))) r q ba bc n f ⟨s.k, s.e, a⟩ := by
  refine ⟨?_, (heap_setCell_other _ _ _ _ (fun e => h.ne e.symm)).trans h.rd, row_keep h.row fun b hb => heap_setCell_other _ _ _ _ (h.bl b hb).1, fun b hb => by rw [World.size_setCell]; exact h.bl b hb, h.le, h.nn⟩
  have := heap_setCell_same w r 2 _ _ (.int .i64 (a : Int)) h.bx
  rw [this]; simp
theorem RdS.setK (h : RdS w r q ba bc n f s) (k : Nat) (hk : k ≤ n) : RdS (w.setCell ⟨q, 1, none⟩ (.int .i64 (k : Int))) r q ba bc n f ⟨k, s.e, s.at_⟩ :=
  ⟨(heap_setCell_other _ _ _ _ h.ne).trans h.bx, h.rd.set (k : Int), row_keep h.row fun b hb => heap_setCell_other _ _ _ _ (h.bl b hb).2.1, fun b hb => by rw [World.size_setCell]; exact h.bl b hb, hk, h.nn⟩
theorem RdS.far (h : RdS w r q ba bc n f s) (b : Nat) (hb : w.heap.size ≤ b) : b ≠ r ∧ b ≠ q ∧ b ∉ blk ba :=
  ⟨fun e => by have := h.ltr; omega, fun e => by have := h.ltq; omega, fun hm => by have := (h.bl b hm).2.2; omega⟩
theorem RdS.setN (h : RdS w r q ba bc n f s) {b : Nat} (hb : b ≠ r ∧ b ≠ q ∧ b ∉ blk ba) (j : Nat) (v : Value) : RdS (w.setCell ⟨b, j, none⟩ v) r q ba bc n f s :=
  h.keep (fun x hx => heap_setCell_other _ _ _ _ (fun e => by
    have e2 : x = b := e
    subst e2
    rcases hx with e | e | e
    · exact hb.1 e
    · exact hb.2.1 e
    · exact hb.2.2 e)) (by rw [World.size_setCell]; exact Nat.le_refl _)
theorem Fr.setN {w0 : World} (h : Fr r q w0 w) {b : Nat} (hb : w0.heap.size ≤ b) (j : Nat) (v : Value) : Fr r q w0 (w.setCell ⟨b, j, none⟩ v) := by
  have hb' := (Below.refl 0 w).setCell (p := ⟨b, j, none⟩) (Nat.zero_le _) v
  exact ⟨hb'.os.trans h.os, hb'.tape.trans h.tape, hb'.output.trans h.output, Nat.le_trans h.size hb'.size, fun x hx h1 h2 => (heap_setCell_other _ _ _ _ (fun e => by have e2 : x = b := e; omega)).trans (h.block x hx h1 h2)⟩
/-- A call of the reader: what it answers, and how the reader stands behind it. -/
def Rr (r q : Nat) (ba : Option Addr) (bc n : Nat) (f : Nat → Nat) (F : FuncId) (args : Array Value) (w : World) (v : Value) (s : RS) : Prop :=
  Calls Tryz.prog F args w fun e w' => e = .returned v ∧ RdS w' r q ba bc n f s ∧ Fr r q w w'
theorem fail_r (h : RdS w r q ba bc n f s) (e : Int) : Rr r q ba bc n f 63 #[.pointer (some ⟨r, 0, none⟩), .int .i64 e] w (.tuple #[]) (s.fail e) := by
  have c1 := whole_cell h.bx 1 _ rfl
  have fz := whole_frozen h.bx 1
  have hlt := h.ltr
  have hE := h.setE e
  have hF := Fr.setr r q w 1 (.int .i64 e)
  unfold RS.fail Rr
  by_cases he : s.e = 0
  · rw [if_pos he]
    rw [he] at c1
    clear h he
    go_enter Tryz.func63, Tryz.ntmps63
    go_wp2
    go_end0
    exact ⟨rfl, hE, hF⟩
  · rw [if_neg he]
    go_enter Tryz.func63, Tryz.ntmps63
    go_wp2
    go_end0
    exact ⟨rfl, h, Fr.refl _ _ _⟩
theorem begin_no (h : RdS w r q ba bc n f s) (he : ¬ s.e = 0) : Calls Tryz.prog 70 #[.pointer (some ⟨r, 0, none⟩)] w fun x w' => x = .returned (.bool false) ∧ w' = w := by
  have c1 := whole_cell h.bx 1 _ rfl
  clear h
  go_enter Tryz.func70, Tryz.ntmps70
  go_wp2
  go_ret
  exact ⟨rfl, rfl⟩
theorem begin_yes (h : RdS w r q ba bc n f s) (he : s.e = 0) : Calls Tryz.prog 70 #[.pointer (some ⟨r, 0, none⟩)] w fun x w' => x = .returned (.bool true) ∧ w' = w.setCell ⟨r, 2, none⟩ (.int .i64 (s.k : Int)) := by
  have c0 := whole_cell h.bx 0 _ rfl
  have c1 := whole_cell h.bx 1 _ rfl
  have c2 := whole_cell h.bx 2 _ rfl
  have fz := whole_frozen h.bx 2
  have hlt := h.ltr
  rw [he] at c1
  have cA := octet.at_any q _ s.k w h.rd
  clear h he
  go_enter Tryz.func70, Tryz.ntmps70
  go_wp2_with (go_at_call 101; with_reducible refine cA.mono ?_; rintro e w' ⟨rfl, hw⟩; replace hw := hw.symm; subst hw)
  go_ret
  exact ⟨rfl, rfl⟩
end
end Go.Proofs.YtonkcnaijcpfdaaGreatDoor.pg
/- The reader of package code in memory: numbers, flags. -/
namespace Go.Proofs.YtonkcnaijcpfdaaGreatDoor.pg
open Go.ChangeShapes Go.WideShapes Go.ChangeAt Go.RowKit
set_option linter.unusedVariables false
set_option linter.unusedSimpArgs false
set_option maxRecDepth 100000
section
variable {w w' : World} {r q bc n : Nat} {ba : Option Addr} {f : Nat → Nat} {s : RS}
theorem unsigned_r (h : RdS w r q ba bc n f s) : Rr r q ba bc n f 96 #[.pointer (some ⟨r, 0, none⟩)] w (.int .u64 (rdU f n s).1) (rdU f n s).2 := by
  by_cases he : s.e = 0
  · have cB := begin_yes h he
    have hA := h.setA s.k
    have hFA := Fr.setr r q w 2 (.int .i64 (s.k : Int))
    obtain ⟨X, hX⟩ : ∃ X, X = octet.gotten f n s.k := ⟨_, rfl⟩
    have hU : rdU f n s = if X.2.2 = 0 then (X.1, ⟨X.2.1.toNat, 0, s.k⟩) else (0, ⟨s.k, X.2.2, s.k⟩) := by unfold rdU; rw [if_pos he, ← hX]
    have hG : octet.gotten f n (s.k : Int) = (X.1, X.2.1, X.2.2) := hX.symm
    rw [hU]
    generalize w.setCell ⟨r, 2, none⟩ (.int .i64 (s.k : Int)) = W at *
    have c0 := whole_cell hA.bx 0 _ rfl
    by_cases hR : X.2.2 = 0
    · rw [if_pos hR]
      rw [hR] at hG
      obtain ⟨x, e1, e2, e3, e4⟩ := gotten_once h.row.2.1 hG
      have cU := octet.uint_ok q ba n bc s.k f W hA.rd hA.row X.1 X.2.1 hG h.le
      have hk : X.2.1.toNat ≤ n := by have := e4.1; rw [putB_len] at this; rw [e3, Int.toNat_natCast]; exact this
      have hK := hA.setK X.2.1.toNat hk
      have hFK := Fr.setq r q W 1 (.int .i64 ((X.2.1.toNat : Nat) : Int))
      rw [show ((X.2.1.toNat : Nat) : Int) = X.2.1 by rw [e3, Int.toNat_natCast]] at hK hFK
      have cF := fail_r hK 0
      unfold RS.fail at cF
      rw [show (⟨X.2.1.toNat, s.e, s.k⟩ : RS).e = 0 from he, if_pos rfl] at cF
      unfold Rr at cF ⊢
      generalize W.setCell ⟨q, 1, none⟩ (.int .i64 X.2.1) = W2 at *
      clear hK hU hX hG e1 e2 e3 e4 hA h
      go_enter Tryz.func96, Tryz.ntmps96
      go_wp2_with (first
        | (go_at_call 70; with_reducible refine cB.mono ?_; rintro e w' ⟨rfl, hw⟩; replace hw := hw.symm; subst hw)
        | (go_at_call 117; with_reducible refine cU.mono ?_; rintro e w' ⟨rfl, hw⟩; replace hw := hw.symm; subst hw)
        | (go_at_call 63; with_reducible refine cF.mono ?_; rintro e w3 ⟨rfl, h3, f3⟩))
      go_ret
      exact ⟨rfl, h3, (hFA.trans hFK).trans f3⟩
    · rw [if_neg hR]
      have cU := octet.uint_err q ba n bc s.k f W hA.rd hA.row X.1 X.2.1 X.2.2 hG hR h.le
      have cF := fail_r hA X.2.2
      unfold RS.fail at cF
      rw [show (⟨s.k, s.e, s.k⟩ : RS).e = 0 from he, if_pos rfl] at cF
      unfold Rr at cF ⊢
      clear hU hX hG hA h hR
      go_enter Tryz.func96, Tryz.ntmps96
      go_wp2_with (first
        | (go_at_call 70; with_reducible refine cB.mono ?_; rintro e w' ⟨rfl, hw⟩; replace hw := hw.symm; subst hw)
        | (go_at_call 117; with_reducible refine cU.mono ?_; rintro e w' ⟨rfl, hw⟩; replace hw := hw.symm; subst hw)
        | (go_at_call 63; with_reducible refine cF.mono ?_; rintro e w3 ⟨rfl, h3, f3⟩))
      go_ret
      exact ⟨rfl, h3, hFA.trans f3⟩
  · have cB := begin_no h he
    have hU : rdU f n s = (0, s) := by unfold rdU; rw [if_neg he]
    rw [hU]
    unfold Rr
    go_enter Tryz.func96, Tryz.ntmps96
    go_wp2_with (go_at_call 70; with_reducible refine cB.mono ?_; rintro e w' ⟨rfl, hw⟩; replace hw := hw.symm; subst hw)
    go_ret
    exact ⟨rfl, h, Fr.refl _ _ _⟩
theorem signed_r (h : RdS w r q ba bc n f s) : Rr r q ba bc n f 95 #[.pointer (some ⟨r, 0, none⟩)] w (.int .i64 (rdS f n s).1) (rdS f n s).2 := by
  unfold rdS
  by_cases he : s.e = 0
  · have cB := begin_yes h he
    have hA := h.setA s.k
    have hFA := Fr.setr r q w 2 (.int .i64 (s.k : Int))
    obtain ⟨X, hX⟩ : ∃ X, X = octet.gotten f n s.k := ⟨_, rfl⟩
    have hU : rdU f n s = if X.2.2 = 0 then (X.1, ⟨X.2.1.toNat, 0, s.k⟩) else (0, ⟨s.k, X.2.2, s.k⟩) := by unfold rdU; rw [if_pos he, ← hX]
    have hG : octet.gotten f n (s.k : Int) = (X.1, X.2.1, X.2.2) := hX.symm
    rw [hU]
    generalize w.setCell ⟨r, 2, none⟩ (.int .i64 (s.k : Int)) = W at *
    have c0 := whole_cell hA.bx 0 _ rfl
    by_cases hR : X.2.2 = 0
    · rw [if_pos hR]
      rw [hR] at hG
      obtain ⟨x, e1, e2, e3, e4⟩ := gotten_once h.row.2.1 hG
      have cU := octet.int_ok q ba n bc s.k f W hA.rd hA.row X.1 X.2.1 _ hG rfl h.le
      have hk : X.2.1.toNat ≤ n := by have := e4.1; rw [putB_len] at this; rw [e3, Int.toNat_natCast]; exact this
      have hK := hA.setK X.2.1.toNat hk
      have hFK := Fr.setq r q W 1 (.int .i64 ((X.2.1.toNat : Nat) : Int))
      rw [show ((X.2.1.toNat : Nat) : Int) = X.2.1 by rw [e3, Int.toNat_natCast]] at hK hFK
      have cF := fail_r hK 0
      unfold RS.fail at cF
      rw [show (⟨X.2.1.toNat, s.e, s.k⟩ : RS).e = 0 from he, if_pos rfl] at cF
      unfold Rr at cF ⊢
      show Calls Tryz.prog _ _ _ fun e w' => e = .returned (.int .i64 (octet.zb X.1)) ∧ _
      generalize octet.zb X.1 = Z at *
      generalize W.setCell ⟨q, 1, none⟩ (.int .i64 X.2.1) = W2 at *
      clear hK hU hX hG e1 e2 e3 e4 hA h
      go_enter Tryz.func95, Tryz.ntmps95
      go_wp2_with (first
        | (go_at_call 70; with_reducible refine cB.mono ?_; rintro e w' ⟨rfl, hw⟩; replace hw := hw.symm; subst hw)
        | (go_at_call 116; with_reducible refine cU.mono ?_; rintro e w' ⟨rfl, hw⟩; replace hw := hw.symm; subst hw)
        | (go_at_call 63; with_reducible refine cF.mono ?_; rintro e w3 ⟨rfl, h3, f3⟩))
      go_ret
      exact ⟨rfl, h3, (hFA.trans hFK).trans f3⟩
    · rw [if_neg hR]
      have cU := octet.int_err q ba n bc s.k f W hA.rd hA.row X.1 X.2.1 X.2.2 hG hR h.le
      have cF := fail_r hA X.2.2
      unfold RS.fail at cF
      rw [show (⟨s.k, s.e, s.k⟩ : RS).e = 0 from he, if_pos rfl] at cF
      unfold Rr at cF ⊢
      clear hU hX hG hA h hR
      show Calls Tryz.prog _ _ _ fun e w' => e = .returned (.int .i64 0) ∧ _
      go_enter Tryz.func95, Tryz.ntmps95
      go_wp2_with (first
        | (go_at_call 70; with_reducible refine cB.mono ?_; rintro e w' ⟨rfl, hw⟩; replace hw := hw.symm; subst hw)
        | (go_at_call 116; with_reducible refine cU.mono ?_; rintro e w' ⟨rfl, hw⟩; replace hw := hw.symm; subst hw)
        | (go_at_call 63; with_reducible refine cF.mono ?_; rintro e w3 ⟨rfl, h3, f3⟩))
      go_ret
      exact ⟨rfl, h3, hFA.trans f3⟩
  · have cB := begin_no h he
    have hU : rdU f n s = (0, s) := by unfold rdU; rw [if_neg he]
    rw [hU]
    unfold Rr
    show Calls Tryz.prog _ _ _ fun e w' => e = .returned (.int .i64 0) ∧ _
    go_enter Tryz.func95, Tryz.ntmps95
    go_wp2_with (go_at_call 70; with_reducible refine cB.mono ?_; rintro e w' ⟨rfl, hw⟩; replace hw := hw.symm; subst hw)
    go_ret
    exact ⟨rfl, h, Fr.refl _ _ _⟩
theorem number_r (h : RdS w r q ba bc n f s) : Rr r q ba bc n f 66 #[.pointer (some ⟨r, 0, none⟩)] w (.int .i64 (rdNum f n s).1) (rdNum f n s).2 := by
  have cU := unsigned_r h
  have hx := rdU_range h.row.2.1 (n := n) s
  unfold rdNum
  obtain ⟨x, hxe⟩ : ∃ x, x = (rdU f n s).1 := ⟨_, rfl⟩
  obtain ⟨s1, hse⟩ : ∃ s1, s1 = (rdU f n s).2 := ⟨_, rfl⟩
  have hp : rdU f n s = (x, s1) := by rw [hxe, hse]
  rw [hp] at cU hx ⊢
  simp only at cU hx ⊢
  by_cases hb : 2147483647 < x
  · rw [if_pos hb]
    have cF : ∀ w1, RdS w1 r q ba bc n f s1 → Calls Tryz.prog 63 #[.pointer (some ⟨r, 0, none⟩), .int .i64 8] w1 _ := fun w1 h1 => fail_r h1 8
    unfold Rr at cU ⊢
    clear hp hxe hse h
    go_enter Tryz.func66, Tryz.ntmps66
    go_wp2_with (first
      | (go_at_call 96; with_reducible refine cU.mono ?_; rintro e w1 ⟨rfl, h1, f1⟩)
      | (go_at_call 63; with_reducible refine (cF _ h1).mono ?_; rintro e w2 ⟨rfl, h2, f2⟩))
    go_ret
    exact ⟨rfl, h2, f1.trans f2⟩
  · rw [if_neg hb]
    have hw : IntKind.i64.wrap x = x := by rw [IntKind.wrap_i64]; omega
    unfold Rr at cU ⊢
    clear hp hxe hse h
    go_enter Tryz.func66, Tryz.ntmps66
    go_wp2_with (go_at_call 96; with_reducible refine cU.mono ?_; rintro e w1 ⟨rfl, h1, f1⟩)
    go_ret
    exact ⟨by first | rfl | rw [hw], h1, f1⟩
theorem count_r (h : RdS w r q ba bc n f s) (m : Int) (hm0 : 0 ≤ m) (hm : m ≤ 1000) : Rr r q ba bc n f 93 #[.pointer (some ⟨r, 0, none⟩), .int .u64 m] w (.int .i64 (rdCnt f n m s).1) (rdCnt f n m s).2 := by
  have cU := unsigned_r h
  have hx := rdU_range h.row.2.1 (n := n) s
  unfold rdCnt
  obtain ⟨x, hxe⟩ : ∃ x, x = (rdU f n s).1 := ⟨_, rfl⟩
  obtain ⟨s1, hse⟩ : ∃ s1, s1 = (rdU f n s).2 := ⟨_, rfl⟩
  have hp : rdU f n s = (x, s1) := by rw [hxe, hse]
  rw [hp] at cU hx ⊢
  simp only at cU hx ⊢
  by_cases hb : m < x
  · rw [if_pos hb]
    have cF : ∀ w1, RdS w1 r q ba bc n f s1 → Calls Tryz.prog 63 #[.pointer (some ⟨r, 0, none⟩), .int .i64 30] w1 _ := fun w1 h1 => fail_r h1 30
    unfold Rr at cU ⊢
    clear hp hxe hse h
    go_enter Tryz.func93, Tryz.ntmps93
    go_wp2_with (first
      | (go_at_call 96; with_reducible refine cU.mono ?_; rintro e w1 ⟨rfl, h1, f1⟩)
      | (go_at_call 63; with_reducible refine (cF _ h1).mono ?_; rintro e w2 ⟨rfl, h2, f2⟩))
    go_ret
    exact ⟨rfl, h2, f1.trans f2⟩
  · rw [if_neg hb]
    have hw : IntKind.i64.wrap x = x := by rw [IntKind.wrap_i64]; omega
    unfold Rr at cU ⊢
    clear hp hxe hse h
    go_enter Tryz.func93, Tryz.ntmps93
    go_wp2_with (go_at_call 96; with_reducible refine cU.mono ?_; rintro e w1 ⟨rfl, h1, f1⟩)
    go_ret
    exact ⟨by first | rfl | rw [hw], h1, f1⟩
theorem flag_r (h : RdS w r q ba bc n f s) : Rr r q ba bc n f 94 #[.pointer (some ⟨r, 0, none⟩)] w (.bool (rdFlag f n s).1) (rdFlag f n s).2 := by
  have cU := unsigned_r h
  have hx := rdU_range h.row.2.1 (n := n) s
  unfold rdFlag
  obtain ⟨x, hxe⟩ : ∃ x, x = (rdU f n s).1 := ⟨_, rfl⟩
  obtain ⟨s1, hse⟩ : ∃ s1, s1 = (rdU f n s).2 := ⟨_, rfl⟩
  have hp : rdU f n s = (x, s1) := by rw [hxe, hse]
  rw [hp] at cU hx ⊢
  simp only at cU hx ⊢
  by_cases hb : 1 < x
  · rw [if_pos hb]
    have cF : ∀ w1, RdS w1 r q ba bc n f s1 → Calls Tryz.prog 63 #[.pointer (some ⟨r, 0, none⟩), .int .i64 8] w1 _ := fun w1 h1 => fail_r h1 8
    have hd : decide (x = 1) = false := by simp; omega
    have hd2 : (x == 1) = false := by simp; omega
    rw [hd]
    unfold Rr at cU ⊢
    clear hp hxe hse h
    go_enter Tryz.func94, Tryz.ntmps94
    go_wp2_with (first
      | (go_at_call 96; with_reducible refine cU.mono ?_; rintro e w1 ⟨rfl, h1, f1⟩)
      | (go_at_call 63; with_reducible refine (cF _ h1).mono ?_; rintro e w2 ⟨rfl, h2, f2⟩))
    go_ret
    exact ⟨by first | rfl | simp [hd2], h2, f1.trans f2⟩
  · rw [if_neg hb]
    have hd2 : (x == 1) = decide (x = 1) := by by_cases h : x = 1 <;> simp [h]
    unfold Rr at cU ⊢
    clear hp hxe hse h
    go_enter Tryz.func94, Tryz.ntmps94
    go_wp2_with (go_at_call 96; with_reducible refine cU.mono ?_; rintro e w1 ⟨rfl, h1, f1⟩)
    go_ret
    exact ⟨by first | rfl | rw [hd2], h1, f1⟩
end
end Go.Proofs.YtonkcnaijcpfdaaGreatDoor.pg
