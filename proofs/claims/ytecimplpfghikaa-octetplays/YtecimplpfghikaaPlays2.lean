/- Take of both readers, side by side; the walk of the statement on plays of a reader. -/
import Derived.Test.YtecimplpfghikaaPlays
import Derived.Handy
import Derived.Deep.QuietTactic
import Derived.BigQuiet
namespace Go.Proofs.Ytecimplpfghikaa.octet
open Go.ChangeShapes Go.WideShapes Go.ChangeAt Go.RowKit
open wrapped
set_option linter.unusedVariables false
section
variable {w : World} {r g c' bw n : Nat} {a0 : Option Addr} {cap0 : Nat} {f : Nat → Nat}
def TkP (w : World) (r g c' bw n : Nat) (a0 : Option Addr) (cap0 : Nat) (f : Nat → Nat) (wr : World) (k2 k' q k : Nat) (R : Int) (e : Ending) (w' : World) : Prop :=
  ∃ A C, e = .returned (.tuple #[.slice A q C, .int .i64 R]) ∧ St w r g c' bw n a0 cap0 f w' k' k2 ∧ Row w' A q (fun i => f (k + i)) ∧ (0 < q → ∃ x, A = some ⟨x, 0, none⟩ ∧ C = q ∧ Owns w' x x q q (fun i => f (k + i)) ∧ r ≠ x ∧ bw ≠ x ∧ g ≠ x ∧ w.heap.size ≤ x) ∧ ∀ y t S K, y ≠ r → Rd wr y t S K → Rd w' y t S K
def TkR (w : World) (r g c' bw n : Nat) (a0 : Option Addr) (cap0 : Nat) (f : Nat → Nat) (wr : World) (k1 k' q k : Nat) (R : Int) (e : Ending) (w' : World) : Prop :=
  ∃ A C, e = .returned (.tuple #[.slice A q C, .int .i64 R]) ∧ St w r g c' bw n a0 cap0 f w' k1 k' ∧ Row w' A q (fun i => f (k + i)) ∧ ∀ x p F, bw ≠ x → Owns wr x x p p F → Owns w' x x p p F
theorem row_zero (wr : World) (A : Option Addr) (f : Nat → Nat) (hf : ∀ i, f i < 256) : Row wr A 0 f := ⟨by decide, hf, .inl rfl⟩
theorem row_le {wr : World} {A : Option Addr} {q : Nat} {F : Nat → Nat} (h : Row wr A q F) : q ≤ 9223372036854775807 := h.1
theorem owns_drewN {wr : World} {x p : Nat} {F : Nat → Nat} (h : Owns wr x x p p F) (m : Nat) : Owns (wr.drewN m) x x p p F := h
theorem takes (E : Env w r g c' bw n a0 cap0 f) (k : Nat) (hk : k ≤ n) (N : Int) (l1 : -9223372036854775808 ≤ N) (l2 : N ≤ 9223372036854775807) : ∃ (R : Int) (q k' : Nat), k' ≤ n ∧
    (∀ wr k2, St w r g c' bw n a0 cap0 f wr k k2 → Calls Try.prog 28 #[rp r, .int .i64 N] wr (TkP w r g c' bw n a0 cap0 f wr k2 k' q k R)) ∧
    (∀ wr k1, St w r g c' bw n a0 cap0 f wr k1 k → Calls Try.prog 29 #[rp bw, .int .i64 N] wr (TkR w r g c' bw n a0 cap0 f wr k1 k' q k R)) := by
  have hnI : (n : Int) ≤ 9223372036854775807 := by have := E.n0; have := E.cn; omega
  have hf' : ∀ i, f (k + i) < 256 := fun i => E.lt _
  by_cases h0 : N < 0
  · refine ⟨1, 0, k, hk, fun wr k2 h => ?_, fun wr k1 h => ?_⟩
    · exact (take_none r _ n c' k N wr h.rd hk hnI l1 l2 1 (.inl ⟨h0, rfl⟩)).mono fun e w' ⟨he, hw⟩ => ⟨none, 0, he, by rw [hw]; exact h, row_zero _ _ _ hf', fun h => by omega, fun y t S K _ hy => by rw [hw]; exact hy⟩
    · exact (reftake_neg bw N wr h0).mono fun e w' ⟨he, hw⟩ => ⟨none, 0, he, by rw [hw]; exact h, row_zero _ _ _ hf', fun x p F _ ho => by rw [hw]; exact ho⟩
  · by_cases h1 : (n : Int) - k < N
    · refine ⟨10, 0, k, hk, fun wr k2 h => ?_, fun wr k1 h => ?_⟩
      · exact (take_none r _ n c' k N wr h.rd hk hnI l1 l2 10 (.inr (.inl ⟨by omega, h1, rfl⟩))).mono fun e w' ⟨he, hw⟩ => ⟨none, 0, he, by rw [hw]; exact h, row_zero _ _ _ hf', fun h => by omega, fun y t S K _ hy => by rw [hw]; exact hy⟩
      · exact (reftake_short bw a0 n cap0 k N wr h.rf hk hnI (by omega) h1).mono fun e w' ⟨he, m, hw⟩ => ⟨none, 0, he, by rw [hw]; exact h.drewN m, row_zero _ _ _ hf', fun x p F _ ho => by rw [hw]; exact owns_drewN ho m⟩
    · obtain ⟨q, rfl⟩ : ∃ q : Nat, N = (q : Int) := ⟨N.toNat, by omega⟩
      have hq : k + q ≤ n := by omega
      refine ⟨0, q, k + q, hq, fun wr k2 h => ?_, fun wr k1 h => ?_⟩
      · by_cases hz : q = 0
        · subst hz
          exact (take_none r _ n c' k 0 wr h.rd hk hnI (by decide) (by decide) 0 (.inr (.inr ⟨rfl, rfl⟩))).mono fun e w' ⟨he, hw⟩ => ⟨none, 0, he, by rw [hw]; exact h, row_zero _ _ _ hf', fun h => by omega, fun y t S K _ hy => by rw [hw]; exact hy⟩
        · refine (take_some r w.heap.size g n c' k q f wr h.rd h.ow (by omega) hq E.nc E.cc (by have := E.n0; have := E.cn; omega)).mono fun e w' ⟨he, w1, hb, ho, hw⟩ => ?_
          have hx := h.rd.lt
          have hy := h.rf.lt
          have hz' := Owns.block h.ow
          have hsz := h.be.size
          have ho' : Owns w' wr.heap.size wr.heap.size q q (fun i => f (k + i)) := by rw [hw]; exact owns_set ho (by omega)
          refine ⟨_, _, he, by rw [hw]; exact (h.later hb).set1 E (k + q) hq, Owns.row ho' (by omega) hf', fun _ => ⟨wr.heap.size, rfl, rfl, ho', by omega, by omega, by omega, hsz⟩, fun y t S K hy hR => by rw [hw]; exact (hR.later hb).other hy _ _⟩
      · refine (reftake_some bw a0 n cap0 k q f wr h.rf (h.rows E).2 E.nn E.n0 (by have := E.cn; omega) hq).mono fun e w' ⟨A, C, he, hrow, m, hw⟩ => ?_
        have hst : St w r g c' bw n a0 cap0 f w' k1 (k + q) := by rw [hw]; exact (h.drewN m).set2 E (k + q) hq
        exact ⟨A, C, he, hst, hrow w' (hst.rows E).2, fun x p F hx ho => by rw [hw]; exact owns_set (owns_drewN ho m) hx.symm⟩
end
set_option maxHeartbeats 4000000 in
set_option maxRecDepth 100000 in
theorem walk (a0 : Option Addr) (len0 cap0 : Nat) (f : Nat → Nat) (a1 : Option Addr) (len1 cap1 : Nat) (z1 : Nat → Int × Int) (w : World) (hr : Row w a0 len0 f) (hnn : a0 = none → len0 = 0 ∧ cap0 = 0) (hlc : len0 ≤ cap0) (rch0 : (cap0 : Int) ≤ 140737488351232) (hp : IsPairs w a1 len1 z1) :
    Calls Try.prog 5 #[.slice a0 len0 cap0, .slice a1 len1 cap1] w fun e w' => e = .returned (.bool true) ∧ Below w.heap.size w w' := by
  have cO := own_any a0 len0 cap0 f w hr hnn (by omega)
  have hf := hr.2.1
  have hlI : (len0 : Int) ≤ 140737488351232 := by omega
  have cN : ∀ w1, Owns w1 w.heap.size w.heap.size len0 (len0 + 16) f → Calls Try.prog 23 #[mine w.heap.size len0 (len0 + 16)] w1 (NewRd len0 f w1) := fun w1 ho => newreader_any w.heap.size len0 (len0 + 16) f w1 (Owns.row ho (by omega) hf) hlI
  go_enter Try.func5, Try.ntmps5
  go_wp2_with (first
    | (go_at_call 9; with_reducible refine cO.mono ?_; rintro e w1 ⟨rfl, ho1, hb1⟩)
    | (go_at_call 23; (with_reducible refine (cN w1 ho1).mono ?_); rintro e w2 ⟨r, g, c', rfl, hrd, how, hb2, hc1, hc2, hrr, hgg, hgr⟩))
  have hB1 := Owns.block ho1
  have hsz1 := hb1.size
  have hsz2 := hb2.size
  have hgl := Owns.block how
  have hrl := hrd.lt
  have hb3 : Below w2.heap.size w2 (w2.alloc (.cells #[.slice a0 len0 cap0, .int .i64 0] 51)) := (Below.refl _ w2).alloc (Nat.le_refl _) _
  have hbw2 : Below w.heap.size w w2 := hb1.trans (hb2.mono hsz1)
  have how' : Owns w2 w.heap.size g len0 c' f := ⟨how.1, by
    rcases how.2 with h' | ⟨g', cap', cur, h', hbs, hr'⟩
    · exact .inl h'
    · exact .inr ⟨g', cap', cur, h', by omega, hr'⟩⟩
  have hE : Env w r g c' w2.heap.size len0 a0 cap0 f := ⟨by omega, hgr, by omega, by omega, by omega, hr, hnn, hc1, hc2, hlc, rch0, hf⟩
  have hS3 : St w r g c' w2.heap.size len0 a0 cap0 f (w2.alloc (.cells #[.slice a0 len0 cap0, .int .i64 0] 51)) 0 0 :=
    ⟨hrd.later hb3, heap_alloc_new w2 _, Owns.later how' hb3, hbw2.trans (hb3.mono hbw2.size), Nat.zero_le _, Nat.zero_le _⟩
  have hoc := Owns.later (Owns.later ho1 hb2) hb3
  have d1 : r ≠ w.heap.size := by omega
  have d2 : w2.heap.size ≠ w.heap.size := by omega
  have d3 : g ≠ w.heap.size := by omega
  generalize w2.alloc (.cells #[.slice a0 len0 cap0, .int .i64 0] 51) = w3 at *
  generalize w2.heap.size = bw at *
  clear hB1 hsz1 hsz2 hgl hrl hb3 hbw2 how' hrd how ho1 hb1 hb2 cO cN hrr hgg hgr hnn hlc
  go_loopw [35] (fun i wr => ∃ (k : Nat) (xs : List Value), k ≤ len0 ∧ i = .int .i64 k ∧ wr.ownsRow w.heap.size 5 1 (mine w.heap.size len0 (len0 + 16)) len0 xs ∧ St w r g c' bw len0 a0 cap0 f wr 0 0) (fun i _ => len0 - (intOf i).toNat)
  case atStart => exact ⟨0, _, Nat.zero_le _, rfl, hoc, hS3⟩
  case round =>
    obtain ⟨k, xs, hk, rfl, hox, hst⟩ := hrel
    by_cases hkl : k < len0
    · obtain ⟨u, hu⟩ : ∃ u, xs[k]? = some u := ⟨_, List.getElem?_eq_getElem (by have := hox.1; omega)⟩
      have hc := World.ownsRow.cellAt hox k (by omega)
      rw [hu] at hc
      have hfz := World.ownsRow.frozenAt hox k
      obtain ⟨hx', hsg⟩ := World.ownsRow.stored hox k (.int .u8 99)
      have hst' : St w r g c' bw len0 a0 cap0 f (wr.setCell ⟨w.heap.size, k, none⟩ (.int .u8 99)) 0 0 := hst.set3 d1 d2 d3 (Nat.le_refl _)
      have hklI : (k : Int) < (len0 : Int) := by omega
      clear hox hst hsg hu hE hS3 hoc hp hr hf
      go_wp2
      go_roundw
      case rel => exact ⟨k + 1, _, by omega, by go_num, hx', hst'⟩
      case measure => simp [intOf]; omega
    · have hk2 : k = len0 := by omega
      subst hk2
      clear hox hoc hS3
      go_wp2
      go_loopw [44] (fun i wr => ∃ (j k' : Nat), j ≤ len1 ∧ i = .int .i64 j ∧ k' ≤ k ∧ St w r g c' bw k a0 cap0 f wr k' k') (fun i _ => len1 - (intOf i).toNat)
      case atStart => exact ⟨0, 0, Nat.zero_le _, rfl, Nat.zero_le _, hst⟩
      case round =>
        obtain ⟨j, k', hj, rfl, hk', hs⟩ := hrel
        by_cases hjl : j < len1
        · rcases (hp.later hs.be).2 with h0 | ⟨sb, so, rfl, hcells⟩
          · omega
          obtain ⟨hc0, hc1', lz0, uz0, lz1, uz1⟩ := hcells j hjl
          obtain ⟨Wt, hWt⟩ : ∃ Wt, Hid ((z1 j).1 = Wt) := ⟨_, rfl⟩
          obtain ⟨Nn, hNn⟩ : ∃ Nn, Hid ((z1 j).2 = Nn) := ⟨_, rfl⟩
          rw [hWt.out] at hc0 lz0 uz0
          rw [hNn.out] at hc1' lz1 uz1
          have hjI : (j : Int) < (len1 : Int) := by omega
          rw [← Nat.add_assoc] at hc1'
          have hl1 : (len1 : Int) ≤ 9223372036854775807 := by have := hp.1; omega
          clear hcells hp hWt hNn
          have hsA : St w r g c' bw k a0 cap0 f (wr.alloc (.cells #[.int .i64 Wt, .int .i64 Nn] 53)) k' k' := hs.later ((Below.refl _ wr).alloc (Nat.le_refl _) _)
          have hnI : (k : Int) ≤ 9223372036854775807 := by omega
          by_cases hw0 : Wt = 0
          · subst hw0
            obtain ⟨X, R, kk, hkk, cU, cRU⟩ := uints hE k' hk'
            clear hs
            go_wp2_with (first
              | (go_at_call 24; (with_reducible refine (cU _ _ hsA).mono ?_); rintro e w5 ⟨rfl, h5⟩)
              | (go_at_call 25; (with_reducible refine (cRU _ _ h5).mono ?_); rintro e w6 ⟨rfl, h6⟩))
            clear cU cRU h5 hsA
            have qA : ∀ m, Calls Try.prog 32 #[rp r] (w6.drewN m) _ := fun m => at_any r _ kk _ (h6.drewN m).rd
            have qL : ∀ m, Calls Try.prog 33 #[rp r] (w6.drewN m) _ := fun m => left_any r (some ⟨g, 0, none⟩) k c' kk _ (h6.drewN m).rd hkk hnI
            have b0 := h6.rf.c0
            have b1 := h6.rf.c1
            have hwr : IntKind.i64.wrap ((k : Int) - (kk : Int)) = (k : Int) - (kk : Int) := by rw [IntKind.wrap_i64]; omega
            go_quiet (first | (go_at_call 32; exact Calls.quiet_of_same (qA _)) | (go_at_call 33; exact Calls.quiet_of_same (qL _)))
            go_wp2
            go_roundw
            case rel => exact ⟨j + 1, kk, by omega, by go_num, hkk, h6.drewN _⟩
            case measure => simp [intOf]; omega
          by_cases hw1 : Wt = 1
          · subst hw1
            obtain ⟨X, R, kk, hkk, cU, cRU⟩ := ints_ hE k' hk'
            clear hs hw0
            go_wp2_with (first
              | (go_at_call 26; (with_reducible refine (cU _ _ hsA).mono ?_); rintro e w5 ⟨rfl, h5⟩)
              | (go_at_call 27; (with_reducible refine (cRU _ _ h5).mono ?_); rintro e w6 ⟨rfl, h6⟩))
            clear cU cRU h5 hsA
            have qA : ∀ m, Calls Try.prog 32 #[rp r] (w6.drewN m) _ := fun m => at_any r _ kk _ (h6.drewN m).rd
            have qL : ∀ m, Calls Try.prog 33 #[rp r] (w6.drewN m) _ := fun m => left_any r (some ⟨g, 0, none⟩) k c' kk _ (h6.drewN m).rd hkk hnI
            have b0 := h6.rf.c0
            have b1 := h6.rf.c1
            have hwr : IntKind.i64.wrap ((k : Int) - (kk : Int)) = (k : Int) - (kk : Int) := by rw [IntKind.wrap_i64]; omega
            go_quiet (first | (go_at_call 32; exact Calls.quiet_of_same (qA _)) | (go_at_call 33; exact Calls.quiet_of_same (qL _)))
            go_wp2
            go_roundw
            case rel => exact ⟨j + 1, kk, by omega, by go_num, hkk, h6.drewN _⟩
            case measure => simp [intOf]; omega
          by_cases hw3 : Wt = 3
          · subst hw3
            have cE := fun (W : World) (h : St w r g c' bw k a0 cap0 f W k' k') => end_any r (some ⟨g, 0, none⟩) k c' k' W h.rd hk' hnI
            have cRE := fun (W : World) (h : St w r g c' bw k a0 cap0 f W k' k') => refend_any bw a0 k cap0 k' W h.rf hk'
            generalize endOf k k' = EO at cE cRE
            clear hs hw0 hw1
            go_wp2_with (first
              | (go_at_call 30; (with_reducible refine (cE _ hsA).mono ?_); rintro e w' ⟨rfl, hw⟩; replace hw := hw.symm; subst hw)
              | (go_at_call 31; (with_reducible refine (cRE _ hsA).mono ?_); rintro e w6 ⟨rfl, m6, hw6⟩; have h6 : St w r g c' bw k a0 cap0 f w6 k' k' := (by rw [hw6]; exact hsA.drewN m6); clear hw6))
            clear cE cRE
            have qA : ∀ m, Calls Try.prog 32 #[rp r] (w6.drewN m) _ := fun m => at_any r _ k' _ (h6.drewN m).rd
            have qL : ∀ m, Calls Try.prog 33 #[rp r] (w6.drewN m) _ := fun m => left_any r (some ⟨g, 0, none⟩) k c' k' _ (h6.drewN m).rd hk' hnI
            have b0 := h6.rf.c0
            have b1 := h6.rf.c1
            have hwr : IntKind.i64.wrap ((k : Int) - (k' : Int)) = (k : Int) - (k' : Int) := by rw [IntKind.wrap_i64]; omega
            go_quiet (first | (go_at_call 32; exact Calls.quiet_of_same (qA _)) | (go_at_call 33; exact Calls.quiet_of_same (qL _)))
            go_wp2
            go_roundw
            case rel => exact ⟨j + 1, k', by omega, by go_num, hk', h6.drewN _⟩
            case measure => simp [intOf]; omega
          by_cases hw2 : Wt = 2
          · subst hw2
            obtain ⟨R, q, kk, hkk, cT, cRT⟩ := takes hE k' hk' Nn lz1 uz1
            have hf' : ∀ i, (fun i => f (k' + i)) i < 256 := fun i => hE.lt _
            have hsame : sameB (fun i => f (k' + i)) q (fun i => f (k' + i)) q = true := (sameB_iff _ _ _ _ hf' hf').2 ⟨rfl, fun _ _ => rfl⟩
            have hsN : Rd (wr.alloc (.cells #[.int .i64 2, .int .i64 Nn] 53)) wr.heap.size 53 (.int .i64 2) Nn := heap_alloc_new wr _
            have hrs : wr.heap.size ≠ r := by have := hs.rd.lt; omega
            clear hs hw0 hw1 hw3
            by_cases hq0 : q = 0
            · subst hq0
              go_wp2_with (first
                | (go_at_call 28; (with_reducible refine (cT _ _ hsA).mono ?_); rintro e w5 hTk; obtain ⟨A, C, rfl, h5, hrow5, hx5, hky⟩ := hTk; have hN5 := (hky _ _ _ _ hrs hsN).c1)
                | (go_at_call 29; (with_reducible refine (cRT _ _ h5).mono ?_); rintro e w6 hTk; obtain ⟨A2, C2, rfl, h6, hrow6, hkeep⟩ := hTk)
                | (go_at_call 12; (with_reducible refine (same_any A A2 0 0 C C2 _ _ w6 (row_zero _ _ _ hf') hrow6 true hsame).mono ?_); rintro e w' ⟨rfl, hw⟩; replace hw := hw.symm; subst hw))
              clear hky hN5 hsN hrs cT cRT hsA h5 hrow5 hx5 hrow6 hkeep hsame
              go_loopw [117] (fun i wr => i = .int .i64 0 ∧ St w r g c' bw k a0 cap0 f wr kk kk) (fun _ _ => 0)
              case atStart => exact ⟨rfl, h6⟩
              case round =>
                obtain ⟨rfl, h7⟩ := hrel
                go_wp2_with fail
                have qA : ∀ m, Calls Try.prog 32 #[rp r] (wr.drewN m) _ := fun m => at_any r _ kk _ (h7.drewN m).rd
                have qL : ∀ m, Calls Try.prog 33 #[rp r] (wr.drewN m) _ := fun m => left_any r (some ⟨g, 0, none⟩) k c' kk _ (h7.drewN m).rd hkk hnI
                have b0 := h7.rf.c0
                have b1 := h7.rf.c1
                have hwr : IntKind.i64.wrap ((k : Int) - (kk : Int)) = (k : Int) - (kk : Int) := by rw [IntKind.wrap_i64]; omega
                go_quiet (first | (go_at_call 32; exact Calls.quiet_of_same (qA _)) | (go_at_call 33; exact Calls.quiet_of_same (qL _)))
                go_wp2
                go_roundw
                case rel => exact ⟨j + 1, kk, by omega, by go_num, hkk, h7.drewN _⟩
                case measure => simp [intOf]; omega
            · have hqp : 0 < q := by omega
              go_wp2_with (first
                | (go_at_call 28; (with_reducible refine (cT _ _ hsA).mono ?_); rintro e w5 hTk; obtain ⟨A, C, rfl, h5, hrow5, hx5, hky⟩ := hTk; have hN5 := (hky _ _ _ _ hrs hsN).c1; obtain ⟨x, rfl, hCq, ho5, x1, x2, x3, x4⟩ := hx5 hqp; replace hCq := hCq.symm; subst hCq)
                | (go_at_call 29; (with_reducible refine (cRT _ _ h5).mono ?_); rintro e w6 hTk; obtain ⟨A2, C2, rfl, h6, hrow6, hkeep⟩ := hTk; have ho6 := hkeep x _ _ x2 ho5)
                | (go_at_call 12; (with_reducible refine (same_any (some ⟨x, 0, none⟩) A2 q q q C2 _ _ w6 (Owns.row ho6 (row_le hrow6) hf') hrow6 true hsame).mono ?_); rintro e w' ⟨rfl, hw⟩; replace hw := hw.symm; subst hw))
              have hqI : (q : Int) ≤ 9223372036854775807 := by have := row_le hrow6; omega
              clear hky hN5 hsN hrs cT cRT hsA h5 hrow5 hx5 hrow6 hkeep hsame ho5
              go_loopw [117] (fun i wr => ∃ (t : Nat) (xs : List Value), t ≤ q ∧ i = .int .i64 t ∧ wr.ownsRow x 5 1 (mine x q q) q xs ∧ St w r g c' bw k a0 cap0 f wr kk kk) (fun i _ => q - (intOf i).toNat)
              case atStart => exact ⟨0, _, Nat.zero_le _, rfl, ho6, h6⟩
              case round =>
                obtain ⟨t, xs, ht, rfl, hox, h7⟩ := hrel
                by_cases htq : t < q
                · obtain ⟨u, hu⟩ : ∃ u, xs[t]? = some u := ⟨_, List.getElem?_eq_getElem (by have := hox.1; omega)⟩
                  have hc := World.ownsRow.cellAt hox t (by omega)
                  rw [hu] at hc
                  have hfz := World.ownsRow.frozenAt hox t
                  obtain ⟨hx', hsg⟩ := World.ownsRow.stored hox t (.int .u8 98)
                  have hst' : St w r g c' bw k a0 cap0 f (wr.setCell ⟨x, t, none⟩ (.int .u8 98)) kk kk := h7.set3 x1 x2 x3 x4
                  have htI : (t : Int) < (q : Int) := by omega
                  clear hox h7 hsg hu hE ho6 h6
                  go_wp2
                  go_roundw
                  case rel => exact ⟨t + 1, _, by omega, by go_num, hx', hst'⟩
                  case measure => simp [intOf]; omega
                · have htq2 : t = q := by omega
                  subst htq2
                  clear hox ho6 h6
                  go_wp2_with fail
                  have qA : ∀ m, Calls Try.prog 32 #[rp r] (wr.drewN m) _ := fun m => at_any r _ kk _ (h7.drewN m).rd
                  have qL : ∀ m, Calls Try.prog 33 #[rp r] (wr.drewN m) _ := fun m => left_any r (some ⟨g, 0, none⟩) k c' kk _ (h7.drewN m).rd hkk hnI
                  have b0 := h7.rf.c0
                  have b1 := h7.rf.c1
                  have hwr : IntKind.i64.wrap ((k : Int) - (kk : Int)) = (k : Int) - (kk : Int) := by rw [IntKind.wrap_i64]; omega
                  go_quiet (first | (go_at_call 32; exact Calls.quiet_of_same (qA _)) | (go_at_call 33; exact Calls.quiet_of_same (qL _)))
                  go_wp2
                  go_roundw
                  case rel => exact ⟨j + 1, kk, by omega, by go_num, hkk, h7.drewN _⟩
                  case measure => simp [intOf]; omega
          · have e0 : ¬ Wt = 0 := by omega
            have e1 : ¬ Wt = 1 := by omega
            have e2 : ¬ Wt = 2 := by omega
            have e3 : ¬ Wt = 3 := by omega
            clear hw0 hw1 hw2 hw3
            go_wp2_with fail
            have qA : ∀ m, Calls Try.prog 32 #[rp r] ((wr.alloc (.cells #[.int .i64 Wt, .int .i64 Nn] 53)).drewN m) _ := fun m => at_any r _ k' _ (hsA.drewN m).rd
            have qL : ∀ m, Calls Try.prog 33 #[rp r] ((wr.alloc (.cells #[.int .i64 Wt, .int .i64 Nn] 53)).drewN m) _ := fun m => left_any r (some ⟨g, 0, none⟩) k c' k' _ (hsA.drewN m).rd hk' hnI
            have b0 := hsA.rf.c0
            have b1 := hsA.rf.c1
            have hwr : IntKind.i64.wrap ((k : Int) - (k' : Int)) = (k : Int) - (k' : Int) := by rw [IntKind.wrap_i64]; omega
            go_quiet (first | (go_at_call 32; exact Calls.quiet_of_same (qA _)) | (go_at_call 33; exact Calls.quiet_of_same (qL _)))
            go_wp2
            go_roundw
            case rel => exact ⟨j + 1, k', by omega, by go_num, hk', hsA.drewN _⟩
            case measure => simp [intOf]; omega
        · have hjl2 : j = len1 := by omega
          subst hjl2
          have hnI : (k : Int) ≤ 9223372036854775807 := by omega
          clear hp
          go_wp2_with fail
          have qA : ∀ m, Calls Try.prog 32 #[rp r] (wr.drewN m) _ := fun m => at_any r _ k' _ (hs.drewN m).rd
          have qL : ∀ m, Calls Try.prog 33 #[rp r] (wr.drewN m) _ := fun m => left_any r (some ⟨g, 0, none⟩) k c' k' _ (hs.drewN m).rd hk' hnI
          have qE : ∀ m, Calls Try.prog 30 #[rp r] (wr.drewN m) _ := fun m => end_any r (some ⟨g, 0, none⟩) k c' k' _ (hs.drewN m).rd hk' hnI
          have qR : ∀ m, Calls Try.prog 31 #[rp bw] (wr.drewN m) _ := fun m => refend_any bw a0 k cap0 k' _ (hs.drewN m).rf hk'
          have b0 := hs.rf.c0
          have b1 := hs.rf.c1
          have hwr : IntKind.i64.wrap ((k : Int) - (k' : Int)) = (k : Int) - (k' : Int) := by rw [IntKind.wrap_i64]; omega
          go_quiet (first | (go_at_call 32; exact Calls.quiet_of_same (qA _)) | (go_at_call 33; exact Calls.quiet_of_same (qL _)) | (go_at_call 30; exact Calls.quiet_of_same (qE _)) | (go_at_call 31; exact Calls.quiet_of (qR _)))
          go_wp2
          go_ret
          exact ⟨rfl, (hs.drewN _).be⟩
end Go.Proofs.Ytecimplpfghikaa.octet
