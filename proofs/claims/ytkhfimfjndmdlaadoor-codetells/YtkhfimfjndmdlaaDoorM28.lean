/- Bytes that differ from a program's in one byte are refused. -/
import Derived.Test.YtkhfimfjndmdlaaDoorM25
import Derived.Test.YtkhfimfjndmdlaaDoorM27
namespace Go.Proofs.YtkhfimfjndmdlaaDoor.pg
open Go.ChangeShapes Go.WideShapes Go.ChangeAt Go.RowKit
set_option linter.unusedVariables false
set_option linter.unusedSimpArgs false
set_option maxRecDepth 100000
theorem u8_at (G n c K : Nat) (h : K < n) : ∀ wx, (Instr.indexAt 27 (.slice (some ⟨G, 0, none⟩) n c) (.int .i64 (K : Int))).run Tryd.prog wx = .ok (.pointer (some ⟨G, K, none⟩)) wx := by
  intro wx
  rw [run_indexAt_slice wx 27 ⟨G, 0, none⟩ _ _ _ _ Tryd.underlying27, if_pos (by omega), show Tryd.prog.elem 27 = 5 by kernel_rfl, Tryd.sizeOf5 wx]
  simp only [Int.toNat_natCast]
  show Result.ok (Value.pointer (some ((⟨G, 0, none⟩ : Addr).add (K * 1)))) wx = _
  rw [add_none]
  simp
theorem row_set {w : World} {G n K x : Nat} {f g : Nat → Nat} {cur : Array Value} {t : TypeId} (hc : w.heap[G]? = some (.cells cur t (0, 0))) (h : octet.Row w (some ⟨G, 0, none⟩) n f) (hK : K < n) (hx : x < 256) (hg : ∀ i, g i = if i = K then x else f i) : octet.Row (w.setCell ⟨G, K, none⟩ (.int .u8 ((x : Nat) : Int))) (some ⟨G, 0, none⟩) n g := by
  have h1 := set4 w G K cur t (.int .u8 ((x : Nat) : Int)) hc
  rcases h.2.2 with h0 | ⟨b, off, ha, hcell⟩
  · omega
  · simp only [Option.some.injEq, Addr.mk.injEq, and_true] at ha
    obtain ⟨rfl, rfl⟩ := ha
    have hcur : ∀ i, i < n → cur[i]? = some (.int .u8 ((f i : Nat) : Int)) := fun i hi => by
      have := hcell i hi
      rw [Nat.zero_add] at this
      simpa [World.cell?, hc] using this
    refine ⟨h.1, fun i => by rw [hg i]; split; exact hx; exact h.2.1 i, .inr ⟨G, 0, rfl, fun i hi => ?_⟩⟩
    rw [Nat.zero_add]
    refine whole_cell h1 i _ ?_
    rw [Array.getElem?_setIfInBounds, hg i]
    by_cases hik : K = i
    · subst hik
      have : K < cur.size := (Array.getElem?_eq_some_iff.mp (hcur K hK)).1
      rw [if_pos rfl, if_pos this, if_pos rfl]
    · rw [if_neg hik, if_neg (fun q => hik q.symm)]
      exact hcur i hi
theorem own_some {w : World} {lo n : Nat} {va : Option Addr} {vc : Nat} {L : List Nat} (h : OwnL w lo 5 1 va vc (L.map u8c)) (hn : L.length = n) (h0 : 0 < n) : ∃ G, va = some ⟨G, 0, none⟩ ∧ lo ≤ G ∧ G < w.heap.size := by
  rcases own_block h with ⟨_, h1, _⟩ | ⟨G, h1, h2, h3⟩
  · rw [List.length_map] at h1; omega
  · exact ⟨G, h1, h2, h3⟩
theorem own_more {w : World} {lo G n vc : Nat} {L : List Nat} (h : OwnL w lo 5 1 (some ⟨G, 0, none⟩) vc (L.map u8c)) (hn : L.length = n) (hb : Bt L) : ∃ cur, w.heap[G]? = some (Obj.cells cur 5 (0, 0)) ∧ octet.Row w (some ⟨G, 0, none⟩) n (fl L) ∧ n ≤ vc ∧ (vc : Int) ≤ 9223372036854775807 := by
  obtain ⟨cur, hc⟩ := tag_own h (b := G) (by simp [blk])
  have hR := own_rows h (u8_len _)
  have hr := rows_row hR hb
  rw [hn] at hr
  have h1 := hR.1
  rw [List.length_map, hn] at h1
  exact ⟨cur, hc, hr, h1, by have := hR.2.1; omega⟩
theorem row_cell {w : World} {G n : Nat} {f : Nat → Nat} (h : octet.Row w (some ⟨G, 0, none⟩) n f) (K : Nat) (hK : K < n) : w.cell? ⟨G, K, none⟩ = some (.int .u8 ((f K : Nat) : Int)) := by
  rcases h.2.2 with h0 | ⟨b, off, ha, hc⟩
  · omega
  · simp only [Option.some.injEq, Addr.mk.injEq, and_true] at ha
    obtain ⟨rfl, rfl⟩ := ha
    have := hc K hK
    rwa [Nat.zero_add] at this
section
variable {w : World}
set_option maxHeartbeats 2000000 in
theorem tells_bad (M : MPr) (a u : Int) (hl : M.lies w) (hF : prog.Forms w) (hr : ¬ (chk insP M.pr).1 = 0) : Calls Tryd.prog 5 #[M.val, .int .i64 a, .int .u8 u] w fun e w' => e = .returned (.bool true) ∧ Below w.heap.size w w' := by
  have hb := boxed w (objP M)
  have hbx : (w.alloc (objP M)).heap[w.heap.size]? = some (objP M) := heap_alloc_new _ _
  have hrr : Hid (decide ((chk insR M.pr).1 = 0) = false) := by show decide _ = false; exact decide_eq_false (fun q => hr ((right_iff M.pr).mpr q))
  have c2 : ∀ wx, Below w.heap.size w wx → Calls Tryd.prog 8 #[M.val] wx _ := fun wx h => rright_any M wx (hl.later h) false hrr
  have c3 : ∀ wx, Below w.heap.size w wx → Calls Tryd.prog 9 #[] wx _ := fun wx h => speaks_any (hF.later h)
  clear hr hrr hF hl
  go_enter Tryd.func5, Tryd.ntmps5
  go_wp2_with (first
    | (go_at_call 8; (with_reducible refine (c2 _ hb).mono ?_); rintro e w2 ⟨rfl, b2⟩; (have B2 := bthen hb b2))
    | (go_at_call 9; (with_reducible refine (c3 _ B2).mono ?_); rintro e w3 ⟨rfl, b3⟩; (have B3 := bthen B2 b3)))
  go_ret
  exact ⟨rfl, B3⟩
set_option maxHeartbeats 2000000 in
theorem tells_none (M : MPr) (a : Int) (hl : M.lies w) (hF : prog.Forms w) (hr : (chk insP M.pr).1 = 0) : Calls Tryd.prog 5 #[M.val, .int .i64 a, .int .u8 0] w fun e w' => e = .returned (.bool true) ∧ Below w.heap.size w w' := by
  have hb := boxed w (objP M)
  have hbx : (w.alloc (objP M)).heap[w.heap.size]? = some (objP M) := heap_alloc_new _ _
  have hrr : Hid (decide ((chk insR M.pr).1 = 0) = true) := by show decide _ = true; exact decide_eq_true ((right_iff M.pr).mp hr)
  have c2 : ∀ wx, Below w.heap.size w wx → Calls Tryd.prog 8 #[M.val] wx _ := fun wx h => rright_any M wx (hl.later h) true hrr
  have c3 : ∀ wx, Below w.heap.size w wx → Calls Tryd.prog 9 #[] wx _ := fun wx h => speaks_any (hF.later h)
  clear hr hrr hF hl
  go_enter Tryd.func5, Tryd.ntmps5
  go_wp2_with (first
    | (go_at_call 8; (with_reducible refine (c2 _ hb).mono ?_); rintro e w2 ⟨rfl, b2⟩; (have B2 := bthen hb b2))
    | (go_at_call 9; (with_reducible refine (c3 _ B2).mono ?_); rintro e w3 ⟨rfl, b3⟩; (have B3 := bthen B2 b3)))
  go_ret
  exact ⟨rfl, B3⟩
set_option maxHeartbeats 4000000 in
theorem tells_ok (M : MPr) (a : Int) (U K : Nat) (hl : M.lies w) (hF : prog.Forms w) (hr : (chk insP M.pr).1 = 0) (hU0 : U ≠ 0) (hU : U < 256) (ha1 : -9223372036854775808 ≤ a) (ha2 : a ≤ 9223372036854775807) (n : Nat) (hn : Hid ((fullB M.pr).length = n))
    (neg : Bool) (hK : if neg = true then (a.tmod n < 0 ∧ a.tmod n + n = K) else (0 ≤ a.tmod n ∧ a.tmod n = K)) (hKn : K < n) : Calls Tryd.prog 5 #[M.val, .int .i64 a, .int .u8 (U : Int)] w fun e w' => e = .returned (.bool true) ∧ Below w.heap.size w w' := by
  have hb := boxed w (objP M)
  have hbx : (w.alloc (objP M)).heap[w.heap.size]? = some (objP M) := heap_alloc_new _ _
  obtain ⟨b, c, hc⟩ : ∃ b c, Hid (chk insP M.pr = (0, b, c)) := ⟨_, _, by show _ = _; rw [← hr]⟩
  have hok := right_mem hr hl
  have hmin := full_min hr hok
  have hmax := full_len _ hok
  rw [hn.out] at hmin hmax
  have hrr : Hid (decide ((chk insR M.pr).1 = 0) = true) := by show decide _ = true; exact decide_eq_true ((right_iff M.pr).mp hr)
  obtain ⟨L, hL⟩ : ∃ L, Hid (fullB M.pr = L) := ⟨_, rfl⟩
  have hLn : Hid (L.length = n) := by show _ = _; rw [← hL.out]; exact hn.out
  have hbt : Hid (Bt L) := by show Bt L; rw [← hL.out]; exact full_bt _
  have c1 : ∀ wx, Below w.heap.size w wx → Calls Tryd.prog 7 #[M.val] wx fun e w' => ∃ va vc, e = .returned (.tuple #[.slice va n vc, .int .i64 0]) ∧ Rows w' 1 va vc (L.map u8c) ∧ (∀ b ∈ blk va, b < w'.heap.size) ∧ Below wx.heap.size wx w' := fun wx h => by
    rw [← hL.out]
    exact encode_full M (hl.later h) (hF.later h) M.pr rfl b c hc.out n hn.out
  have c2 : ∀ wx, Below w.heap.size w wx → Calls Tryd.prog 8 #[M.val] wx _ := fun wx h => rright_any M wx (hl.later h) true hrr
  have c3 : ∀ wx, Below w.heap.size w wx → Calls Tryd.prog 9 #[] wx _ := fun wx h => speaks_any (hF.later h)
  have hx : fl L K ^^^ U < 256 := Nat.xor_lt_two_pow (n := 8) (fl_lt hbt.out K) hU
  obtain ⟨g, hg⟩ : ∃ g : Nat → Nat, Hid (∀ i, g i = if i = K then fl L K ^^^ U else fl L i) := ⟨_, fun i => rfl⟩
  have hgl : ∀ i, g i < 256 := fun i => by rw [hg.out i]; split; exact hx; exact fl_lt hbt.out i
  have hE : (dS g n).e ≠ 0 := tells (f := fl L) (P := M.pr) (K := K) (fl_lt hbt.out) hgl (by rw [hL.out, ← hLn.out]; exact has_fl L) hn.out.symm hKn (by
    rw [hg.out K, if_pos rfl]
    intro q
    have : fl L K ^^^ (fl L K ^^^ U) = fl L K ^^^ fl L K := by rw [← q]
    rw [← Nat.xor_assoc, Nat.xor_self, Nat.zero_xor] at this
    exact hU0 this) (fun i hi => by rw [hg.out i, if_neg hi])
  have c4 : ∀ wx G vc, Below w.heap.size w wx → octet.Row wx (some ⟨G, 0, none⟩) n g → G < wx.heap.size → n ≤ vc → (vc : Int) ≤ 9223372036854775807 → Calls Tryd.prog 10 #[.slice (some ⟨G, 0, none⟩) n vc] wx _ := fun wx G vc hx h1 h2 h3 h4 => decode_wrong h1 (fun q => by cases q) (.inr fun b hb => by simp [blk] at hb; omega) (by omega) h3 h4 (fun wy hy => (hF.later hx).later hy) hE
  have hE2 : ((dS g n).e != 0) = true := by simpa using hE
  have hxor : bits .xor .u8 ((fl L K : Nat) : Int) (U : Int) = ((fl L K ^^^ U : Nat) : Int) := u8_xor_nat (fl L K) U (fl_lt hbt.out K) hU
  have hUI : ((U : Int) == 0) = false := by simp; omega
  obtain ⟨i5, hi5, hz5, hs5, hb5⟩ := info_of infoB
  have hminI : (18 : Int) ≤ n := by omega
  have hmaxI : (n : Int) ≤ 50000 := by omega
  have hKI : (K : Int) < n := by omega
  generalize dS g n = D at *
  clear hr hrr hc hF hl hok hL hE hn
  go_enter Tryd.func5, Tryd.ntmps5
  cases neg with
  | false =>
    simp only [Bool.false_eq_true, if_false] at hK
    obtain ⟨hk1, hk2⟩ := hK
    go_wp2_with (first
      | (go_at_call 8; (with_reducible refine (c2 _ hb).mono ?_); rintro e w1 ⟨rfl, b1⟩; (have B1 := bthen hb b1); (have p1 := (b1.block w.heap.size (by rw [World.size_alloc]; omega)).trans hbx); (have q0 := whole_cell p1 0 _ rfl); (have q1 := whole_cell p1 1 _ rfl); (have q2 := whole_cell p1 2 _ rfl); (have q3 := whole_cell p1 3 _ rfl); (have ql := (Array.getElem?_eq_some_iff.mp p1).1))
      | (go_at_call 7; (with_reducible refine (c1 _ B1).mono ?_); rintro e w2 ⟨va, vc, rfl, hR, _, b2⟩; (have B2 := bthen B1 b2); (have hRH : Hid (Rows (w2.alloc (.cells #[] 5)) 1 va vc (L.map u8c)) := hR.later (boxed _ _)); (have hOl : Hid (OwnL (w2.alloc (.cells #[] 5)) w2.heap.size 5 1 (some ⟨w2.heap.size, 0, none⟩) 0 []) := octet.owns_lit w2); (have hbs : Hid (w2.heap.size ≤ (w2.alloc (.cells #[] 5)).heap.size) := by (show _ ≤ _); rw [World.size_alloc]; omega); clear hR)
      | (at_builtin; (refine wpList_app rfl (.tmp 44) (.tmp 45) 27 rfl w2.heap.size 5 i5 _ 1 1 Tryd.underlying27 hi5 hz5 hs5 hb5 rfl (by decide) (some ⟨w2.heap.size, 0, none⟩) 0 [] rfl hOl.out va vc (L.map u8c) (by rw [List.length_map, hLn.out]; rfl) hRH.out (u8_len _) (u8_one _) (by have := hLn.out; unfold maxLen; simp only [List.length_map, List.length_nil]; omega) (by have := hLn.out; simp only [List.length_map, List.length_nil]; omega) hbs.out ?_); intro va' vc' w3 ho3 hk3 hB3 hbl3; simp only [List.length_append, List.length_map, List.length_nil, List.nil_append, Nat.zero_add, hLn.out] at ho3 ⊢;
          obtain ⟨G, hva, hG1, hG2⟩ := own_some ho3 hLn.out (by omega); subst hva;
          (have b3 : Below w2.heap.size w2 w3 := below_keep (boxed w2 _) hbs.out hB3); (have B3 := bthen B2 b3);
          obtain ⟨cur, hcur, hrow, hv1, hv2⟩ := own_more ho3 hLn.out hbt.out;
          (have hix := u8_at G n vc' K hKn); (have hcl := row_cell hrow K hKn); (have hfz := fun o => whole_frozen hcur o);
          (have hrs : Hid (octet.Row (w3.setCell ⟨G, K, none⟩ (.int .u8 ((fl L K ^^^ U : Nat) : Int))) (some ⟨G, 0, none⟩) n g) := row_set hcur hrow hKn hx hg.out);
          (have B4 : Hid (Below w.heap.size w (w3.setCell ⟨G, K, none⟩ (.int .u8 ((fl L K ^^^ U : Nat) : Int)))) := B3.setCell (p := ⟨G, K, none⟩) (by have := B2.size; show _ ≤ G; omega) _);
          (have hG3 : Hid (G < (w3.setCell ⟨G, K, none⟩ (.int .u8 ((fl L K ^^^ U : Nat) : Int))).heap.size) := by (show _ < _); rw [World.size_setCell]; exact hG2))
      | (go_at_call 10; (with_reducible refine (c4 _ G vc' B4.out hrs.out hG3.out hv1 hv2).mono ?_); rintro e w5 ⟨rfl, b5⟩; (have B6 : Hid (Below w.heap.size w (w5.alloc objP0)) := bthen (bthen B4.out b5) (boxed _ _)))
      | (go_at_call 9; (with_reducible refine (c3 _ B6.out).mono ?_); rintro e w7 ⟨rfl, b7⟩; (have B7 := bthen B6.out b7)))
    go_ret
    exact ⟨rfl, B7⟩
  | true =>
    simp only [if_true] at hK
    obtain ⟨hk1, hk2⟩ := hK
    go_wp2_with (first
      | (go_at_call 8; (with_reducible refine (c2 _ hb).mono ?_); rintro e w1 ⟨rfl, b1⟩; (have B1 := bthen hb b1); (have p1 := (b1.block w.heap.size (by rw [World.size_alloc]; omega)).trans hbx); (have q0 := whole_cell p1 0 _ rfl); (have q1 := whole_cell p1 1 _ rfl); (have q2 := whole_cell p1 2 _ rfl); (have q3 := whole_cell p1 3 _ rfl); (have ql := (Array.getElem?_eq_some_iff.mp p1).1))
      | (go_at_call 7; (with_reducible refine (c1 _ B1).mono ?_); rintro e w2 ⟨va, vc, rfl, hR, _, b2⟩; (have B2 := bthen B1 b2); (have hRH : Hid (Rows (w2.alloc (.cells #[] 5)) 1 va vc (L.map u8c)) := hR.later (boxed _ _)); (have hOl : Hid (OwnL (w2.alloc (.cells #[] 5)) w2.heap.size 5 1 (some ⟨w2.heap.size, 0, none⟩) 0 []) := octet.owns_lit w2); (have hbs : Hid (w2.heap.size ≤ (w2.alloc (.cells #[] 5)).heap.size) := by (show _ ≤ _); rw [World.size_alloc]; omega); clear hR)
      | (at_builtin; (refine wpList_app rfl (.tmp 44) (.tmp 45) 27 rfl w2.heap.size 5 i5 _ 1 1 Tryd.underlying27 hi5 hz5 hs5 hb5 rfl (by decide) (some ⟨w2.heap.size, 0, none⟩) 0 [] rfl hOl.out va vc (L.map u8c) (by rw [List.length_map, hLn.out]; rfl) hRH.out (u8_len _) (u8_one _) (by have := hLn.out; unfold maxLen; simp only [List.length_map, List.length_nil]; omega) (by have := hLn.out; simp only [List.length_map, List.length_nil]; omega) hbs.out ?_); intro va' vc' w3 ho3 hk3 hB3 hbl3; simp only [List.length_append, List.length_map, List.length_nil, List.nil_append, Nat.zero_add, hLn.out] at ho3 ⊢;
          obtain ⟨G, hva, hG1, hG2⟩ := own_some ho3 hLn.out (by omega); subst hva;
          (have b3 : Below w2.heap.size w2 w3 := below_keep (boxed w2 _) hbs.out hB3); (have B3 := bthen B2 b3);
          obtain ⟨cur, hcur, hrow, hv1, hv2⟩ := own_more ho3 hLn.out hbt.out;
          (have hix := u8_at G n vc' K hKn); (have hcl := row_cell hrow K hKn); (have hfz := fun o => whole_frozen hcur o);
          (have hrs : Hid (octet.Row (w3.setCell ⟨G, K, none⟩ (.int .u8 ((fl L K ^^^ U : Nat) : Int))) (some ⟨G, 0, none⟩) n g) := row_set hcur hrow hKn hx hg.out);
          (have B4 : Hid (Below w.heap.size w (w3.setCell ⟨G, K, none⟩ (.int .u8 ((fl L K ^^^ U : Nat) : Int)))) := B3.setCell (p := ⟨G, K, none⟩) (by have := B2.size; show _ ≤ G; omega) _);
          (have hG3 : Hid (G < (w3.setCell ⟨G, K, none⟩ (.int .u8 ((fl L K ^^^ U : Nat) : Int))).heap.size) := by (show _ < _); rw [World.size_setCell]; exact hG2))
      | (go_at_call 10; (with_reducible refine (c4 _ G vc' B4.out hrs.out hG3.out hv1 hv2).mono ?_); rintro e w5 ⟨rfl, b5⟩; (have B6 : Hid (Below w.heap.size w (w5.alloc objP0)) := bthen (bthen B4.out b5) (boxed _ _)))
      | (go_at_call 9; (with_reducible refine (c3 _ B6.out).mono ?_); rintro e w7 ⟨rfl, b7⟩; (have B7 := bthen B6.out b7)))
    go_ret
    exact ⟨rfl, B7⟩
end
theorem wf_word {n : Int} (h : (Lit.int .i64 n).wf = true) : -9223372036854775808 ≤ n ∧ n ≤ 9223372036854775807 := by
  simp [Lit.wf, IntKind.min, IntKind.max, IntKind.signed, IntKind.bits] at h
  omega
theorem tmod_place (a : Int) (n : Nat) (hn : 0 < n) : ∃ (neg : Bool) (K : Nat), (if neg = true then (a.tmod n < 0 ∧ a.tmod n + n = K) else (0 ≤ a.tmod n ∧ a.tmod n = K)) ∧ K < n := by
  have hp : (0 : Int) < n := by omega
  have hlt := Int.tmod_lt_of_pos a hp
  by_cases h : a.tmod n < 0
  · have h2 : -(n : Int) < a.tmod n := by
      have h3 := Int.tmod_lt_of_pos (-a) hp
      rw [Int.neg_tmod] at h3
      omega
    refine ⟨true, (a.tmod n + n).toNat, ?_, by omega⟩
    rw [if_pos rfl]
    exact ⟨h, by omega⟩
  · refine ⟨false, (a.tmod n).toNat, ?_, by omega⟩
    rw [if_neg (by decide)]
    exact ⟨by omega, by omega⟩
theorem codetells_any {w : World} (M : MPr) (a u : Int) (hl : M.lies w) (hF : prog.Forms w) (ha : (Lit.int .i64 a).wf = true) (hu : (Lit.int .u8 u).wf = true) : Calls Tryd.prog 5 #[M.val, .int .i64 a, .int .u8 u] w fun e w' => e = .returned (.bool true) ∧ Below w.heap.size w w' := by
  by_cases hr : (chk insP M.pr).1 = 0
  · obtain ⟨u0, u1⟩ := octet.wf_byte hu
    by_cases h0 : u = 0
    · subst h0; exact tells_none M a hl hF hr
    · obtain ⟨U, rfl⟩ : ∃ U : Nat, u = U := ⟨u.toNat, by omega⟩
      obtain ⟨a1, a2⟩ := wf_word ha
      have hmin := full_min hr (right_mem hr hl)
      obtain ⟨neg, K, hK, hKn⟩ := tmod_place a (fullB M.pr).length (by omega)
      exact tells_ok M a U K hl hF hr (by omega) (by omega) a1 a2 _ rfl neg hK hKn
  · exact tells_bad M a u hl hF hr
end Go.Proofs.YtkhfimfjndmdlaaDoor.pg

