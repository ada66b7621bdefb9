/- A witness of which one byte is another one is not read. -/
import Derived.Test.YtikkgfmhnmoalaaM19
import Derived.Laws.BitsAllLaws
import Derived.Test.YtikkgfmhnmoalaaM7
import Derived.Test.YtikkgfmhnmoalaaM12
import Derived.Laws.AppendOwnNone
namespace Go.Proofs.Ytikkgfmhnmoalaa.pg
open Go.ChangeShapes Go.WideShapes Go.ChangeAt Go.RowKit
set_option linter.unusedVariables false
set_option linter.unusedSimpArgs false
set_option maxRecDepth 100000
theorem u8_at (G n c K : Nat) (h : K < n) : ∀ wx, (Instr.indexAt 32 (.slice (some ⟨G, 0, none⟩) n c) (.int .i64 (K : Int))).run Try.prog wx = .ok (.pointer (some ⟨G, K, none⟩)) wx := by
  intro wx
  rw [run_indexAt_slice wx 32 ⟨G, 0, none⟩ _ _ _ _ Try.underlying32, if_pos (by omega), show Try.prog.elem 32 = 5 by kernel_rfl, Try.sizeOf5 wx]
  simp only [Int.toNat_natCast]
  show Result.ok (Value.pointer (some ((⟨G, 0, none⟩ : Addr).add (K * 1)))) wx = _
  rw [add_none]
  simp
theorem row_put {w : World} {G n K x : Nat} {f g : Nat → Nat} {cur : Array Value} {t : TypeId} (hc : w.heap[G]? = some (.cells cur t (0, 0))) (h : octet.Row w (some ⟨G, 0, none⟩) n f) (hK : K < n) (hx : x < 256) (hg : ∀ i, g i = if i = K then x else f i) : octet.Row (w.setCell ⟨G, K, none⟩ (.int .u8 ((x : Nat) : Int))) (some ⟨G, 0, none⟩) n g := by
  have h1 := heap_setCell_same w G K cur t (.int .u8 ((x : Nat) : Int)) hc
  rcases h.2.2 with h0 | ⟨b, off, ha, hcell⟩
  · omega
  · simp only [Option.some.injEq, Addr.mk.injEq, and_true] at ha
    obtain ⟨rfl, rfl⟩ := ha
    have hcur : ∀ i, i < n → cur[i]? = some (.int .u8 ((f i : Nat) : Int)) := fun i hi => by
      have := hcell i hi
      rw [Nat.zero_add] at this
      simpa [World.cell?, hc] using this
    refine ⟨h.1, fun i => by rw [hg i]; split; exact hx; exact h.2.1 i, .inr ⟨G, 0, rfl, fun i hi => ?_⟩⟩
    rw [Nat.zero_add]
    refine whole_cell h1 i _ ?_
    rw [Array.getElem?_setIfInBounds, hg i]
    by_cases hik : K = i
    · subst hik
      have : K < cur.size := (Array.getElem?_eq_some_iff.mp (hcur K hK)).1
      rw [if_pos rfl, if_pos this, if_pos rfl]
    · rw [if_neg hik, if_neg (fun q => hik q.symm)]
      exact hcur i hi
theorem own_some {w : World} {lo n : Nat} {va : Option Addr} {vc : Nat} {L : List Nat} (h : OwnL w lo 5 1 va vc (L.map u8c)) (hn : L.length = n) (h0 : 0 < n) : ∃ G, va = some ⟨G, 0, none⟩ ∧ lo ≤ G ∧ G < w.heap.size := by
  rcases own_block h with ⟨_, h1, _⟩ | ⟨G, h1, h2, h3⟩
  · rw [List.length_map] at h1; omega
  · exact ⟨G, h1, h2, h3⟩
theorem tag_ownW {w : World} {lo e k : Nat} {a : Option Addr} {cap : Nat} {L : List (List Value)} (h : OwnL w lo e k a cap L) {b : Nat} (hb : b ∈ blk a) : ∃ cur, w.heap[b]? = some (Obj.cells cur e (0, 0)) := by
  rcases h.2 with ⟨q, _⟩ | ⟨g', cap', cur, q, _, hg', _⟩
  · simp only [Value.slice.injEq] at q; rw [q.1] at hb; simp [blk] at hb
  · simp only [Value.slice.injEq] at q
    rw [q.1] at hb
    simp only [blk, List.mem_singleton] at hb
    subst hb
    exact ⟨cur, hg'⟩
theorem own_more {w : World} {lo G n vc : Nat} {L : List Nat} (h : OwnL w lo 5 1 (some ⟨G, 0, none⟩) vc (L.map u8c)) (hn : L.length = n) (hb : Bt L) : ∃ cur, w.heap[G]? = some (Obj.cells cur 5 (0, 0)) ∧ octet.Row w (some ⟨G, 0, none⟩) n (fl L) ∧ n ≤ vc ∧ (vc : Int) ≤ 9223372036854775807 := by
  obtain ⟨cur, hc⟩ := tag_ownW h (b := G) (by simp [blk])
  have hR := own_rows h (u8_len _)
  have hr := rows_row hR hb
  rw [hn] at hr
  have h1 := hR.1
  rw [List.length_map, hn] at h1
  exact ⟨cur, hc, hr, h1, by have := hR.2.1; omega⟩
theorem row_cell {w : World} {G n : Nat} {f : Nat → Nat} (h : octet.Row w (some ⟨G, 0, none⟩) n f) (K : Nat) (hK : K < n) : w.cell? ⟨G, K, none⟩ = some (.int .u8 ((f K : Nat) : Int)) := by
  rcases h.2.2 with h0 | ⟨b, off, ha, hc⟩
  · omega
  · simp only [Option.some.injEq, Addr.mk.injEq, and_true] at ha
    obtain ⟨rfl, rfl⟩ := ha
    have := hc K hK
    rwa [Nat.zero_add] at this
theorem num_pos (v : Int) : 1 ≤ (numB v).length := by
  unfold numB
  rw [putB_len]
  exact (octet.szN_bd _ (by omega)).1
theorem flat_ge {α : Type} (f : α → List Nat) (h : ∀ x, 1 ≤ (f x).length) : ∀ l : List α, l.length ≤ (l.flatMap f).length
  | [] => by simp
  | a :: t => by
    have h1 := h a
    have h2 := flat_ge f h t
    rw [List.flatMap_cons, List.length_append, List.length_cons]
    omega
theorem bytes_len {M : Wi} (h : M.ok = true) : 23 ≤ M.bytes.length ∧ M.bytes.length ≤ 7000 := by
  have h1 := flat_ge (fun x : Int × Int × Int => numB x.2.2) (fun x => num_pos _) M.nums
  have h2 := nums_len M
  have h3 := body_len h
  have h4 : M.body.length = 8 + (M.nums.flatMap fun x => numB x.2.2).length := by
    unfold Wi.body
    rw [List.length_append]
    rfl
  have h5 : M.bytes.length = M.body.length + 4 := by
    unfold Wi.bytes
    rw [List.length_append]
    rfl
  omega
section
variable {w : World} {M : Wi} {pa : Option Addr} {pc : Nat}
set_option maxHeartbeats 4000000 in
theorem flips_bad (at_ u : Int) (hin : WitIn w M pa pc) (hok : M.ok = false) : Calls Try.prog 6 #[.agg (M.cells pa pc).toArray, .int .i64 at_, .int .u8 u] w fun e w' => e = .returned (.bool true) ∧ Below w.heap.size w w' := by
  have hb := boxed w (objWi M pa pc)
  have hz : Hid ((w.alloc (objWi M pa pc)).heap[w.heap.size]? = some (objWi M pa pc)) := heap_alloc_new _ _
  have huW : Hid (Try.prog.underlying 31 = _) := Try.underlying31
  have hiC : Hid ((Try.prog.info? 31).map (·.size) = some (M.cells pa pc).toArray.size) := infoW12
  have hinH : Hid (∀ wx, Below w.heap.size w wx → Rows wx 2 pa pc (M.pk.map pkC)) := fun wx h => hin.r.later h
  have cW := write_bad M pa pc (w.alloc (objWi M pa pc)) (hinH.out _ hb) (hin.b.imp_left fun h b q => by have := h b q; have := hb.size; omega) hok
  have cR : ∀ wx, Below w.heap.size w wx → Calls Try.prog 14 #[.agg (M.cells pa pc).toArray] wx fun e w' => e = .returned (.bool false) ∧ Below wx.heap.size wx w' := fun wx h => by
    have := rrightW_any M pa pc wx (hinH.out wx h) hin.v
    rwa [hok] at this
  have cS : ∀ wx, Calls Try.prog 10 #[] wx _ := fun wx => smallW_any wx
  clear hin hinH hok
  go_enter Try.func6, Try.ntmps6
  go_wp2_with (first
    | (refine wpList_load_row rfl 31 _ rfl w.heap.size rfl _ _ _ _ hz.out huW.out rfl hiC.out ?_)
    | (refine wpList_load_row rfl 31 _ rfl w.heap.size rfl _ _ _ _ hz1.out huW.out rfl hiC.out ?_)
    | (go_at_call 7; (with_reducible refine cW.mono ?_); rintro e w1 ⟨rfl, hb1⟩; (have hB1 := bthen hb hb1); (have hz1 : Hid (w1.heap[w.heap.size]? = some (objWi M pa pc)) := (hb1.block _ (by rw [World.size_alloc]; omega)).trans hz.out))
    | (go_at_call 14; (with_reducible refine (cR _ hB1).mono ?_); rintro e w2 ⟨rfl, hb2⟩)
    | (go_at_call 10; (with_reducible refine (cS _).mono ?_); rintro e w3 ⟨rfl, hb3⟩))
  go_ret
  exact ⟨rfl, bthen (bthen hB1 hb2) hb3⟩
set_option maxHeartbeats 4000000 in
theorem flips_low (at_ u : Int) (hin : WitIn w M pa pc) (hok : M.ok = true) (hlow : at_ < 0) : Calls Try.prog 6 #[.agg (M.cells pa pc).toArray, .int .i64 at_, .int .u8 u] w fun e w' => e = .returned (.bool true) ∧ Below w.heap.size w w' := by
  have hb := boxed w (objWi M pa pc)
  have hz : Hid ((w.alloc (objWi M pa pc)).heap[w.heap.size]? = some (objWi M pa pc)) := heap_alloc_new _ _
  have huW : Hid (Try.prog.underlying 31 = _) := Try.underlying31
  have hiC : Hid ((Try.prog.info? 31).map (·.size) = some (M.cells pa pc).toArray.size) := infoW12
  have hinH : Hid (∀ wx, Below w.heap.size w wx → Rows wx 2 pa pc (M.pk.map pkC)) := fun wx h => hin.r.later h
  obtain ⟨hmin, hmax⟩ := bytes_len hok
  obtain ⟨n, hn⟩ : ∃ n, Hid (M.bytes.length = n) := ⟨_, rfl⟩
  have cW := write_ok M pa pc (w.alloc (objWi M pa pc)) (hinH.out _ hb) (hin.b.imp_left fun h b q => by have := h b q; have := hb.size; omega) hin.s0 hin.s1 hok
  rw [hn.out] at cW hmin hmax
  have hminI : (23 : Int) ≤ n := by omega
  clear hin hinH hok
  go_enter Try.func6, Try.ntmps6
  go_wp2_with (first
    | (refine wpList_load_row rfl 31 _ rfl w.heap.size rfl _ _ _ _ hz.out huW.out rfl hiC.out ?_)
    | (go_at_call 7; (with_reducible refine cW.mono ?_); rintro e w1 ⟨va, vc, rfl, ho1, hb1⟩))
  go_ret
  exact ⟨rfl, bthen hb hb1⟩
set_option maxHeartbeats 4000000 in
theorem flips_high (at_ u : Int) (hin : WitIn w M pa pc) (hok : M.ok = true) (h0 : 0 ≤ at_) (hhi : (M.bytes.length : Int) ≤ at_) : Calls Try.prog 6 #[.agg (M.cells pa pc).toArray, .int .i64 at_, .int .u8 u] w fun e w' => e = .returned (.bool true) ∧ Below w.heap.size w w' := by
  have hb := boxed w (objWi M pa pc)
  have hz : Hid ((w.alloc (objWi M pa pc)).heap[w.heap.size]? = some (objWi M pa pc)) := heap_alloc_new _ _
  have huW : Hid (Try.prog.underlying 31 = _) := Try.underlying31
  have hiC : Hid ((Try.prog.info? 31).map (·.size) = some (M.cells pa pc).toArray.size) := infoW12
  have hinH : Hid (∀ wx, Below w.heap.size w wx → Rows wx 2 pa pc (M.pk.map pkC)) := fun wx h => hin.r.later h
  obtain ⟨hmin, hmax⟩ := bytes_len hok
  obtain ⟨n, hn⟩ : ∃ n, Hid (M.bytes.length = n) := ⟨_, rfl⟩
  have cW := write_ok M pa pc (w.alloc (objWi M pa pc)) (hinH.out _ hb) (hin.b.imp_left fun h b q => by have := h b q; have := hb.size; omega) hin.s0 hin.s1 hok
  rw [hn.out] at cW hmin hmax
  have hminI : (23 : Int) ≤ n := by omega
  rw [hn.out] at hhi
  clear hin hinH hok
  go_enter Try.func6, Try.ntmps6
  go_wp2_with (first
    | (refine wpList_load_row rfl 31 _ rfl w.heap.size rfl _ _ _ _ hz.out huW.out rfl hiC.out ?_)
    | (go_at_call 7; (with_reducible refine cW.mono ?_); rintro e w1 ⟨va, vc, rfl, ho1, hb1⟩))
  go_ret
  exact ⟨rfl, bthen hb hb1⟩
set_option maxHeartbeats 4000000 in
theorem flips_none (K : Nat) (hin : WitIn w M pa pc) (hok : M.ok = true) (hKn : K < M.bytes.length) : Calls Try.prog 6 #[.agg (M.cells pa pc).toArray, .int .i64 (K : Int), .int .u8 0] w fun e w' => e = .returned (.bool true) ∧ Below w.heap.size w w' := by
  have hb := boxed w (objWi M pa pc)
  have hz : Hid ((w.alloc (objWi M pa pc)).heap[w.heap.size]? = some (objWi M pa pc)) := heap_alloc_new _ _
  have huW : Hid (Try.prog.underlying 31 = _) := Try.underlying31
  have hiC : Hid ((Try.prog.info? 31).map (·.size) = some (M.cells pa pc).toArray.size) := infoW12
  have hinH : Hid (∀ wx, Below w.heap.size w wx → Rows wx 2 pa pc (M.pk.map pkC)) := fun wx h => hin.r.later h
  obtain ⟨hmin, hmax⟩ := bytes_len hok
  obtain ⟨n, hn⟩ : ∃ n, Hid (M.bytes.length = n) := ⟨_, rfl⟩
  have cW := write_ok M pa pc (w.alloc (objWi M pa pc)) (hinH.out _ hb) (hin.b.imp_left fun h b q => by have := h b q; have := hb.size; omega) hin.s0 hin.s1 hok
  rw [hn.out] at cW hmin hmax
  have hminI : (23 : Int) ≤ n := by omega
  rw [hn.out] at hKn
  have hKI : (K : Int) < n := by omega
  clear hin hinH hok
  go_enter Try.func6, Try.ntmps6
  go_wp2_with (first
    | (refine wpList_load_row rfl 31 _ rfl w.heap.size rfl _ _ _ _ hz.out huW.out rfl hiC.out ?_)
    | (go_at_call 7; (with_reducible refine cW.mono ?_); rintro e w1 ⟨va, vc, rfl, ho1, hb1⟩))
  go_ret
  exact ⟨rfl, bthen hb hb1⟩
set_option maxHeartbeats 4000000 in
theorem flips_ok (K U : Nat) (hin : WitIn w M pa pc) (hok : M.ok = true) (hKn : K < M.bytes.length) (hU0 : U ≠ 0) (hU : U < 256) : Calls Try.prog 6 #[.agg (M.cells pa pc).toArray, .int .i64 (K : Int), .int .u8 (U : Int)] w fun e w' => e = .returned (.bool true) ∧ Below w.heap.size w w' := by
  have hb := boxed w (objWi M pa pc)
  have hz : Hid ((w.alloc (objWi M pa pc)).heap[w.heap.size]? = some (objWi M pa pc)) := heap_alloc_new _ _
  have huW : Hid (Try.prog.underlying 31 = _) := Try.underlying31
  have hiC : Hid ((Try.prog.info? 31).map (·.size) = some (M.cells pa pc).toArray.size) := infoW12
  have hinH : Hid (∀ wx, Below w.heap.size w wx → Rows wx 2 pa pc (M.pk.map pkC)) := fun wx h => hin.r.later h
  obtain ⟨hmin, hmax⟩ := bytes_len hok
  obtain ⟨n, hn⟩ : ∃ n, Hid (M.bytes.length = n) := ⟨_, rfl⟩
  have cW := write_ok M pa pc (w.alloc (objWi M pa pc)) (hinH.out _ hb) (hin.b.imp_left fun h b q => by have := h b q; have := hb.size; omega) hin.s0 hin.s1 hok
  rw [hn.out] at cW hmin hmax
  have hminI : (23 : Int) ≤ n := by omega
  rw [hn.out] at hKn
  have hKI : (K : Int) < n := by omega
  have hu := (back_pure M hin.s0 hin.s1 hok).1
  have hbt0 := bt_bytes M hin.s0 hin.s1
  obtain ⟨L, hL⟩ : ∃ L, Hid (M.bytes = L) := ⟨_, rfl⟩
  have hLn : Hid (L.length = n) := by show _ = _; rw [← hL.out]; exact hn.out
  rw [hL.out] at cW hbt0 hu
  rw [hLn.out] at hu
  have hbt : Hid (Bt L) := hbt0
  have hx : fl L K ^^^ U < 256 := Nat.xor_lt_two_pow (n := 8) (fl_lt hbt0 K) hU
  obtain ⟨g, hg⟩ : ∃ g : Nat → Nat, Hid (∀ i, g i = if i = K then fl L K ^^^ U else fl L i) := ⟨_, fun i => rfl⟩
  have hgl : ∀ i, g i < 256 := fun i => by rw [hg.out i]; split; exact hx; exact fl_lt hbt0 i
  have hE : (unfP g n).1 ≠ 0 := flip_pure (f := fl L) (K := K) (fl_lt hbt0) hgl hu hKn (by
    rw [hg.out K, if_pos rfl]
    intro q
    have : fl L K ^^^ (fl L K ^^^ U) = fl L K ^^^ fl L K := by rw [← q]
    rw [← Nat.xor_assoc, Nat.xor_self, Nat.zero_xor] at this
    exact hU0 this) (fun i hi => by rw [hg.out i, if_neg hi])
  have cD : ∀ wx G vc, octet.Row wx (some ⟨G, 0, none⟩) n g → n ≤ vc → (vc : Int) ≤ 9223372036854775807 → Calls Try.prog 11 #[.slice (some ⟨G, 0, none⟩) n vc] wx fun e w' => e = .returned (.tuple #[.agg zeA, .int .i64 (unfP g n).1, .int .i64 (unfP g n).2]) ∧ Below wx.heap.size wx w' := fun wx G vc h1 h2 h3 => read_unfit _ _ _ _ _ h1 h2 h3 hE
  have cE : ∀ wx, Calls Try.prog 13 #[.agg zeA, .agg zeA] wx fun e w' => e = .returned (.bool true) ∧ Below wx.heap.size wx w' := fun wx => sameW_any zeroWi none none 0 0 wx ⟨Nat.le_refl _, by decide, fun _ => ⟨rfl, rfl⟩, .inl rfl⟩ ⟨Nat.le_refl _, by decide, fun _ => ⟨rfl, rfl⟩, .inl rfl⟩
  have hE2 : ((unfP g n).1 == 0) = false := by simpa using hE
  have hE3 : ((unfP g n).1 != 0) = true := by simpa using hE
  have hxor : bits .xor .u8 ((fl L K : Nat) : Int) (U : Int) = ((fl L K ^^^ U : Nat) : Int) := u8_xor_nat (fl L K) U (fl_lt hbt0 K) hU
  have hUI : ((U : Int) == 0) = false := by simp; omega
  have hn0 : 0 < n := by omega
  generalize unfP g n = D at *
  clear hin hinH hok hu hbt0 hE hgl
  go_enter Try.func6, Try.ntmps6
  go_wp2_with (first
    | (refine wpList_load_row rfl 31 _ rfl w.heap.size rfl _ _ _ _ hz.out huW.out rfl hiC.out ?_)
    | (go_at_call 7; (with_reducible refine cW.mono ?_); rintro e w1 ⟨va, vc, rfl, ho1, hb1⟩; (have B1 := bthen hb hb1);
        obtain ⟨G, hva, hG1, hG2⟩ := own_some ho1 hLn.out hn0; subst hva;
        obtain ⟨cur, hcur, hrow, hv1, hv2⟩ := own_more ho1 hLn.out hbt.out;
        (have hix := u8_at G n vc K hKn); (have hcl := row_cell hrow K hKn); (have hfz := fun o => whole_frozen hcur o);
        (have hrs : Hid (octet.Row (w1.setCell ⟨G, K, none⟩ (.int .u8 ((fl L K ^^^ U : Nat) : Int))) (some ⟨G, 0, none⟩) n g) := row_put hcur hrow hKn hx hg.out);
        (have B4 : Hid (Below w.heap.size w (w1.setCell ⟨G, K, none⟩ (.int .u8 ((fl L K ^^^ U : Nat) : Int)))) := B1.setCell (p := ⟨G, K, none⟩) (by rw [World.size_alloc] at hG1; show _ ≤ G; omega) _))
    | (go_at_call 11; (with_reducible refine (cD _ G vc hrs.out hv1 hv2).mono ?_); rintro e w5 ⟨rfl, b5⟩; (have B5 : Hid (Below w.heap.size w (w5.alloc (.cells zeA 31))) := bthen (bthen B4.out b5) (boxed _ _)); (have l1 := heap_alloc_new w5 (.cells zeA 31)); (obtain ⟨k0, k1, k2, k3, k4, k5, k6, k7, k8, k9, k10, k11⟩ := cells12 l1); clear l1)
    | (go_at_call 13; (with_reducible refine (cE _).mono ?_); rintro e w7 ⟨rfl, b7⟩))
  go_ret
  exact ⟨rfl, bthen B5.out b7⟩
end
theorem flips_any (M : Wi) (pa : Option Addr) (pc : Nat) (at_ u : Int) (w : World) (hin : WitIn w M pa pc) (hu0 : 0 ≤ u) (hu1 : u < 256) : Calls Try.prog 6 #[.agg (M.cells pa pc).toArray, .int .i64 at_, .int .u8 u] w fun e w' => e = .returned (.bool true) ∧ Below w.heap.size w w' := by
  rcases Bool.eq_false_or_eq_true M.ok with hok | hok
  · by_cases h0 : at_ < 0
    · exact flips_low at_ u hin hok h0
    · by_cases h1 : (M.bytes.length : Int) ≤ at_
      · exact flips_high at_ u hin hok (by omega) h1
      · obtain ⟨K, rfl⟩ : ∃ K : Nat, at_ = K := ⟨at_.toNat, by omega⟩
        obtain ⟨U, rfl⟩ : ∃ U : Nat, u = U := ⟨u.toNat, by omega⟩
        by_cases h2 : U = 0
        · subst h2; exact flips_none K hin hok (by omega)
        · exact flips_ok K U hin hok (by omega) h2 (by omega)
  · exact flips_bad at_ u hin hok
theorem flips_row (M : Wi) (pa : Option Addr) (pc : Nat) (at_ u : Int) (w : World) (hin : WitIn w M pa pc) (h1 : (Lit.int .i64 at_).wf = true) (h2 : (Lit.int .u8 u).wf = true) : Calls Try.prog 6 #[.agg (M.cells pa pc).toArray, .int .i64 at_, .int .u8 u] w fun e w' => e = .returned (.bool true) ∧ Below w.heap.size w w' :=
  flips_any M pa pc at_ u w hin (octet.wf_byte h2).1 (by have := (octet.wf_byte h2).2; omega)
end Go.Proofs.Ytikkgfmhnmoalaa.pg
/- A witness is read from its bytes; bytes that are read are its bytes. -/
namespace Go.Proofs.Ytikkgfmhnmoalaa.pg
open Go.ChangeShapes Go.WideShapes Go.ChangeAt Go.RowKit
set_option linter.unusedVariables false
set_option linter.unusedSimpArgs false
set_option maxRecDepth 100000
/-- Bytes in memory, as they came in. -/
structure BytesL (w : World) (a : Option Addr) (c : Nat) (L : List Nat) : Prop where
  r : Rows w 1 a c (L.map u8c)
  b : Bt L
theorem BytesL.later {w w' : World} {a : Option Addr} {c : Nat} {L : List Nat} (h : BytesL w a c L) (hb : Below w.heap.size w w') : BytesL w' a c L := ⟨h.r.later hb, h.b⟩
theorem BytesL.row {w : World} {a : Option Addr} {c : Nat} {L : List Nat} (h : BytesL w a c L) : octet.Row w a L.length (fl L) := rows_row h.r h.b
theorem BytesL.len {w : World} {a : Option Addr} {c : Nat} {L : List Nat} (h : BytesL w a c L) : L.length ≤ c := by have := h.r.1; rwa [List.length_map] at this
theorem BytesL.cap {w : World} {a : Option Addr} {c : Nat} {L : List Nat} (h : BytesL w a c L) : (c : Int) ≤ 9223372036854775807 := by have := h.r.2.1; omega
section
variable {H : Type} {enc : TypeId × Value → H} {w : World} {base : Nat} {spare : Nat → Bool} {held : Bool}
theorem u8_inW {P : Program} {t : TypeId} (ht : P.underlying t = some (.int .u8)) {n : Nat} {v : Value} {y : DataW H × List MemPlace} (h : DataW.trod enc P w base spare held n t [v] = some y) : ∃ z : Nat, v = .int .u8 (z : Int) ∧ z < 256 := by
  obtain ⟨z, e, _, b⟩ := DataW.trod_int ht h
  simp only [List.cons.injEq, and_true] at e
  have b2 : 0 ≤ z ∧ z ≤ 255 := by simpa [Lit.wf, IntKind.min, IntKind.max, IntKind.bits, IntKind.signed] using b
  refine ⟨z.toNat, ?_, by omega⟩
  rw [e, Int.toNat_of_nonneg b2.1]
theorem bytes_arg {n : Nat} {a : Option Addr} {len c : Nat} {y : DataW H × List MemPlace} (h : DataW.trod enc Try.prog w base spare held n 32 [.slice a len c] = some y) : ∃ L : List Nat, L.length = len ∧ BytesL w a c L := by
  obtain ⟨l, hl, hr, hq⟩ := rows_in (k := 1) (0 : Nat) u8c (fun x => x < 256) Try.underlying32 (by kernel_rfl) (by omega) (fun n cs y hl h => by
    match cs, hl, h with
    | [v], _, h =>
      obtain ⟨z, rfl, hz⟩ := u8_inW Try.underlying5 h
      exact ⟨z, rfl, hz⟩) h
  exact ⟨l, hl, hr, hq⟩
end
abbrev wiA (M : Wi) (pa : Option Addr) (pc : Nat) : Array Value := #[.int .u32 M.s, .int .i64 M.kd, .int .i64 M.af, .int .i64 M.ap, .int .i64 M.bf, .int .i64 M.bp, .int .i64 M.nm, .int .i64 M.wy, .slice pa M.pk.length pc, .int .i64 M.st, .int .i64 M.fu, .int .i64 M.ru]
/-- What Read answers of bytes: nothing, with what is wrong, or a right witness whose bytes they are. -/
theorem read_all (L : List Nat) (a : Option Addr) (c : Nat) (w : World) (h : BytesL w a c L) : Calls Try.prog 11 #[.slice a L.length c] w fun e w' => Below w.heap.size w w' ∧ ((∃ x y : Int, x ≠ 0 ∧ e = .returned (.tuple #[.agg zeA, .int .i64 x, .int .i64 y])) ∨ ∃ (M : Wi) (pa : Option Addr) (pc : Nat), e = .returned (.tuple #[.agg (wiA M pa pc), .int .i64 0, .int .i64 0]) ∧ OwnL w' w.heap.size 66 2 pa pc (M.pk.map pkC) ∧ M.ok = true ∧ 0 ≤ M.s ∧ M.s < 4294967296 ∧ M.bytes = L) := by
  by_cases hu : (unfP (fl L) L.length).1 = 0
  · refine (read_fit a L.length c (fl L) w h.row h.len h.cap hu).mono ?_
    rintro e w' ⟨hb, h1, h2⟩
    refine ⟨hb, ?_⟩
    by_cases hE : (rdE (fl L) L.length).1 = 0
    · obtain ⟨pk, pa, pc, rfl, ho, hpk⟩ := h2 hE
      obtain ⟨q1, q2, q3, q4⟩ := canon_pure L h.b hu hE pk hpk
      exact .inr ⟨_, pa, pc, rfl, ho, q1, q2, q3, q4⟩
    · exact .inl ⟨_, _, hE, h1 hE⟩
  · refine (read_unfit a L.length c (fl L) w h.row h.len h.cap hu).mono ?_
    rintro e w' ⟨rfl, hb⟩
    exact ⟨hb, .inl ⟨_, _, hu, rfl⟩⟩
theorem own_bytes {w : World} {lo : Nat} {va : Option Addr} {vc : Nat} {L : List Nat} (h : OwnL w lo 5 1 va vc (L.map u8c)) (hb : Bt L) : BytesL w va vc L := ⟨own_rows h (u8_len _), hb⟩
theorem own_blkW {w : World} {lo e k : Nat} {a : Option Addr} {cap : Nat} {L : List (List Value)} (h : OwnL w lo e k a cap L) : ∀ b ∈ blk a, b < w.heap.size := fun b hb => by
  obtain ⟨cur, hc⟩ := tag_ownW h hb
  exact (Array.getElem?_eq_some_iff.mp hc).1
theorem same_bytes (L : List Nat) (a b : Option Addr) (c d : Nat) (w : World) (h1 : BytesL w a c L) (h2 : BytesL w b d L) : Calls Try.prog 9 #[.slice a L.length c, .slice b L.length d] w fun e w' => e = .returned (.bool true) ∧ w' = w :=
  octet.same_any a b _ _ c d _ _ w h1.row h2.row true ((octet.sameB_iff _ _ _ _ (fl_lt h1.b) (fl_lt h2.b)).mpr ⟨rfl, fun _ _ => rfl⟩)
section
variable {w : World}
set_option maxHeartbeats 8000000 in
theorem back_bad (M : Wi) (pa : Option Addr) (pc : Nat) (L : List Nat) (a : Option Addr) (c : Nat) (hin : WitIn w M pa pc) (hL : BytesL w a c L) (hok : M.ok = false) : Calls Try.prog 5 #[.agg (M.cells pa pc).toArray, .slice a L.length c] w fun e w' => e = .returned (.bool true) ∧ Below w.heap.size w w' := by
  have hb := boxed w (objWi M pa pc)
  have hz : Hid ((w.alloc (objWi M pa pc)).heap[w.heap.size]? = some (objWi M pa pc)) := heap_alloc_new _ _
  have huW : Hid (Try.prog.underlying 31 = _) := Try.underlying31
  have hiC : Hid ((Try.prog.info? 31).map (·.size) = some (M.cells pa pc).toArray.size) := infoW12
  have hinH : Hid (∀ wx, Below w.heap.size w wx → Rows wx 2 pa pc (M.pk.map pkC)) := fun wx h => hin.r.later h
  have cW := write_bad M pa pc (w.alloc (objWi M pa pc)) (hinH.out _ hb) (hin.b.imp_left fun h b q => by have := h b q; have := hb.size; omega) hok
  have cR : ∀ wx, Below w.heap.size w wx → Calls Try.prog 14 #[.agg (M.cells pa pc).toArray] wx fun e w' => e = .returned (.bool false) ∧ Below wx.heap.size wx w' := fun wx h => by
    have := rrightW_any M pa pc wx (hinH.out wx h) hin.v
    rwa [hok] at this
  have hLH : Hid (∀ wx, Below w.heap.size w wx → BytesL wx a c L) := fun wx h => hL.later h
  have cD : ∀ wx, Below w.heap.size w wx → Calls Try.prog 11 #[.slice a L.length c] wx _ := fun wx h => read_all L a c wx (hL.later h)
  have cS : ∀ wx, Calls Try.prog 10 #[] wx _ := fun wx => smallW_any wx
  clear hin hinH hok hL
  go_enter Try.func5, Try.ntmps5
  go_wp2_with (first
    | (refine wpList_load_row rfl 31 _ rfl w.heap.size rfl _ _ _ _ hz.out huW.out rfl hiC.out ?_)
    | (refine wpList_load_row rfl 31 _ rfl w.heap.size rfl _ _ _ _ hz1.out huW.out rfl hiC.out ?_)
    | (go_at_call 7; (with_reducible refine cW.mono ?_); rintro e w1 ⟨rfl, hb1⟩; (have hB1 := bthen hb hb1); (have hz1 : Hid (w1.heap[w.heap.size]? = some (objWi M pa pc)) := (hb1.block _ (by rw [World.size_alloc]; omega)).trans hz.out))
    | (go_at_call 14; (with_reducible refine (cR _ hB1).mono ?_); rintro e w2 ⟨rfl, hb2⟩; (have hBR : Hid (Below w.heap.size w w2) := bthen hB1 hb2)))
  go_at_call 11
  refine (cD _ hBR.out).mono ?_
  rintro e w6 ⟨hb6, hD⟩
  have hB6 := bthen hBR.out hb6
  clear cW cR hz huW hiC hBR
  rcases hD with ⟨x, y, hx, rfl⟩ | ⟨M2, pb, pd, rfl, ho2, ok2, s2, t2, e2⟩
  · have hx2 : (x == 0) = false := by simpa using hx
    have hx3 : (x != 0) = true := by simpa using hx
    have hB7 : Hid (Below w.heap.size w (w6.alloc (.cells zeA 31))) := bthen hB6 (boxed _ _)
    clear hB6
    go_wp2_with (first
      | (go_at_call 10; (with_reducible refine (cS _).mono ?_); rintro e w8 ⟨rfl, hb8⟩))
    go_ret
    exact ⟨rfl, bthen hB7.out hb8⟩
  · have hB7 : Hid (Below w.heap.size w (w6.alloc (.cells (wiA M2 pb pd) 31))) := bthen hB6 (boxed _ _)
    have cW2 : ∀ wx, Below w6.heap.size w6 wx → Calls Try.prog 7 #[.agg (wiA M2 pb pd)] wx fun e w' => ∃ va vc, e = .returned (.tuple #[.slice va L.length vc, .int .i64 0]) ∧ OwnL w' wx.heap.size 5 1 va vc (L.map u8c) ∧ Below wx.heap.size wx w' := fun wx h => by
      have := write_ok M2 pb pd wx ((own_rows ho2 (pk_len _)).later h) (.inl fun b hb => Nat.lt_of_lt_of_le (own_blkW ho2 b hb) h.size) s2 t2 ok2
      rw [e2] at this
      exact this
    have l1 := heap_alloc_new w6 (.cells (wiA M2 pb pd) 31)
    obtain ⟨k0, k1, k2, k3, k4, k5, k6, k7, k8, k9, k10, k11⟩ := cells12 l1
    have hbt : Hid (Bt L) := (hLH.out _ hB6).b
    have hb7 := boxed w6 (.cells (wiA M2 pb pd) 31)
    clear hB6 l1 ho2 ok2
    go_wp2_with (first
      | (go_at_call 7; (with_reducible refine (cW2 _ hb7).mono ?_); rintro e w8 ⟨va, vc, rfl, ho8, hb8⟩; (have hB8 := bthen hB7.out hb8); (have cZ := same_bytes L va a vc c w8 (own_bytes ho8 hbt.out) (hLH.out _ hB8)))
      | (go_at_call 9; (with_reducible refine cZ.mono ?_); rintro e w9 ⟨rfl, rfl⟩))
    go_ret
    exact ⟨rfl, hB8⟩
set_option maxHeartbeats 8000000 in
theorem back_ok (M : Wi) (pa : Option Addr) (pc : Nat) (L : List Nat) (a : Option Addr) (c : Nat) (hin : WitIn w M pa pc) (hL : BytesL w a c L) (hok : M.ok = true) : Calls Try.prog 5 #[.agg (M.cells pa pc).toArray, .slice a L.length c] w fun e w' => e = .returned (.bool true) ∧ Below w.heap.size w w' := by
  have hb := boxed w (objWi M pa pc)
  have hz : Hid ((w.alloc (objWi M pa pc)).heap[w.heap.size]? = some (objWi M pa pc)) := heap_alloc_new _ _
  have huW : Hid (Try.prog.underlying 31 = _) := Try.underlying31
  have hiC : Hid ((Try.prog.info? 31).map (·.size) = some (M.cells pa pc).toArray.size) := infoW12
  have hinH : Hid (∀ wx, Below w.heap.size w wx → Rows wx 2 pa pc (M.pk.map pkC)) := fun wx h => hin.r.later h
  obtain ⟨n, hn⟩ : ∃ n, Hid (M.bytes.length = n) := ⟨_, rfl⟩
  have cW := write_ok M pa pc (w.alloc (objWi M pa pc)) (hinH.out _ hb) (hin.b.imp_left fun h b q => by have := h b q; have := hb.size; omega) hin.s0 hin.s1 hok
  rw [hn.out] at cW
  have cR : ∀ wx, Below w.heap.size w wx → Calls Try.prog 14 #[.agg (M.cells pa pc).toArray] wx fun e w' => e = .returned (.bool true) ∧ Below wx.heap.size wx w' := fun wx h => by
    have := rrightW_any M pa pc wx (hinH.out wx h) hin.v
    rwa [hok] at this
  have cA : ∀ va vc wx, Rows wx 1 va vc (M.bytes.map u8c) → Calls Try.prog 11 #[.slice va n vc] wx fun e w' => Below wx.heap.size wx w' ∧ ∃ pb pd, e = .returned (.tuple #[.agg (wiA M pb pd), .int .i64 0, .int .i64 0]) ∧ OwnL w' wx.heap.size 66 2 pb pd (M.pk.map pkC) := fun va vc wx h => by
    have := read_of M hin.s0 hin.s1 hok va vc wx h
    rw [hn.out] at this
    exact this
  have cE : ∀ pb pd wx, Below w.heap.size w wx → Rows wx 2 pb pd (M.pk.map pkC) → Calls Try.prog 13 #[.agg (wiA M pa pc), .agg (wiA M pb pd)] wx fun e w' => e = .returned (.bool true) ∧ Below wx.heap.size wx w' := fun pb pd wx h h2 => sameW_any M _ _ _ _ wx (hinH.out wx h) h2
  have hLH : Hid (∀ wx, Below w.heap.size w wx → BytesL wx a c L) := fun wx h => hL.later h
  have cD : ∀ wx, Below w.heap.size w wx → Calls Try.prog 11 #[.slice a L.length c] wx _ := fun wx h => read_all L a c wx (hL.later h)
  have cS : ∀ wx, Calls Try.prog 10 #[] wx _ := fun wx => smallW_any wx
  clear hin hinH hok hL
  go_enter Try.func5, Try.ntmps5
  go_wp2_with (first
    | (refine wpList_load_row rfl 31 _ rfl w.heap.size rfl _ _ _ _ hz.out huW.out rfl hiC.out ?_)
    | (refine wpList_load_row rfl 31 _ rfl w.heap.size rfl _ _ _ _ hz1.out huW.out rfl hiC.out ?_)
    | (go_at_call 7; (with_reducible refine cW.mono ?_); rintro e w1 ⟨va, vc, rfl, ho1, hb1⟩; (have hB1 := bthen hb hb1); (have hz1 : Hid (w1.heap[w.heap.size]? = some (objWi M pa pc)) := (hb1.block _ (by rw [World.size_alloc]; omega)).trans hz.out))
    | (go_at_call 14; (with_reducible refine (cR _ hB1).mono ?_); rintro e w2 ⟨rfl, hb2⟩; (have hB2 := bthen hB1 hb2); (have hr2 := (own_rows ho1 (u8_len _)).later hb2))
    | (go_at_call 11; (with_reducible refine (cA va vc _ hr2).mono ?_); rintro e w3 ⟨hb3, pb, pd, rfl, ho3⟩; (have hB3 := bthen hB2 hb3);
        (have hA := boxed w3 (.cells (wiA M pb pd) 31)); (have B3 := bthen hB3 hA);
        (have l1 : Hid ((w3.alloc (.cells (wiA M pb pd) 31)).heap[w.heap.size]? = some (.cells (wiA M pa pc) 31)) := ((bthen (bthen hb2 hb3) hA).block _ (Array.getElem?_eq_some_iff.mp hz1.out).1).trans hz1.out);
        (have l2 := heap_alloc_new w3 (.cells (wiA M pb pd) 31));
        (obtain ⟨k0, k1, k2, k3, k4, k5, k6, k7, k8, k9, k10, k11⟩ := cells12 l1.out); (obtain ⟨j0, j1, j2, j3, j4, j5, j6, j7, j8, j9, j10, j11⟩ := cells12 l2); (have r3 := (own_rows ho3 (pk_len _)).later hA); clear l2 cA)
    | (go_at_call 13; (with_reducible refine (cE pb pd _ B3 r3).mono ?_); rintro e w4 ⟨rfl, hb4⟩; (have hBR : Hid (Below w.heap.size w w4) := bthen B3 hb4); clear k0 k1 k2 k3 k4 k5 k6 k7 k8 k9 k10 k11 j0 j1 j2 j3 j4 j5 j6 j7 j8 j9 j10 j11))
  go_at_call 11
  refine (cD _ hBR.out).mono ?_
  rintro e w6 ⟨hb6, hD⟩
  have hB6 := bthen hBR.out hb6
  clear cW cR hz huW hiC hBR
  rcases hD with ⟨x, y, hx, rfl⟩ | ⟨M2, pb, pd, rfl, ho2, ok2, s2, t2, e2⟩
  · have hx2 : (x == 0) = false := by simpa using hx
    have hx3 : (x != 0) = true := by simpa using hx
    have hB7 : Hid (Below w.heap.size w (w6.alloc (.cells zeA 31))) := bthen hB6 (boxed _ _)
    clear hB6
    go_wp2_with (first
      | (go_at_call 10; (with_reducible refine (cS _).mono ?_); rintro e w8 ⟨rfl, hb8⟩))
    go_ret
    exact ⟨rfl, bthen hB7.out hb8⟩
  · have hB7 : Hid (Below w.heap.size w (w6.alloc (.cells (wiA M2 pb pd) 31))) := bthen hB6 (boxed _ _)
    have cW2 : ∀ wx, Below w6.heap.size w6 wx → Calls Try.prog 7 #[.agg (wiA M2 pb pd)] wx fun e w' => ∃ va vc, e = .returned (.tuple #[.slice va L.length vc, .int .i64 0]) ∧ OwnL w' wx.heap.size 5 1 va vc (L.map u8c) ∧ Below wx.heap.size wx w' := fun wx h => by
      have := write_ok M2 pb pd wx ((own_rows ho2 (pk_len _)).later h) (.inl fun b hb => Nat.lt_of_lt_of_le (own_blkW ho2 b hb) h.size) s2 t2 ok2
      rw [e2] at this
      exact this
    have l1 := heap_alloc_new w6 (.cells (wiA M2 pb pd) 31)
    obtain ⟨k0, k1, k2, k3, k4, k5, k6, k7, k8, k9, k10, k11⟩ := cells12 l1
    have hbt : Hid (Bt L) := (hLH.out _ hB6).b
    have hb7 := boxed w6 (.cells (wiA M2 pb pd) 31)
    clear hB6 l1 ho2 ok2
    go_wp2_with (first
      | (go_at_call 7; (with_reducible refine (cW2 _ hb7).mono ?_); rintro e w8 ⟨va, vc, rfl, ho8, hb8⟩; (have hB8 := bthen hB7.out hb8); (have cZ := same_bytes L va a vc c w8 (own_bytes ho8 hbt.out) (hLH.out _ hB8)))
      | (go_at_call 9; (with_reducible refine cZ.mono ?_); rintro e w9 ⟨rfl, rfl⟩))
    go_ret
    exact ⟨rfl, hB8⟩
end
theorem back_row (M : Wi) (pa : Option Addr) (pc : Nat) (L : List Nat) (a : Option Addr) (c : Nat) (w : World) (hin : WitIn w M pa pc) (hL : BytesL w a c L) : Calls Try.prog 5 #[.agg (M.cells pa pc).toArray, .slice a L.length c] w fun e w' => e = .returned (.bool true) ∧ Below w.heap.size w w' := by
  rcases Bool.eq_false_or_eq_true M.ok with hok | hok
  · exact back_ok M pa pc L a c hin hL hok
  · exact back_bad M pa pc L a c hin hL hok
end Go.Proofs.Ytikkgfmhnmoalaa.pg
/- The contracts of the document's own Bytes, Put and PutInt. -/
namespace Go.Proofs.Ytikkgfmhnmoalaa.octet
open Go.ChangeShapes Go.WideShapes Go.ChangeAt Go.RowKit
open wrapped
set_option linter.unusedVariables false
theorem owns_shape {w : World} {base n : Nat} {v : Value} {f : Nat → Nat} (h : w.ownsRow base 5 1 v n (bl f n)) (hn : 0 < n) : ∃ g c, v = mine g n c ∧ Owns w base g n c f := by
  rcases h.2 with ⟨_, h0⟩ | ⟨g, c, cur, rfl, hr⟩
  · omega
  · exact ⟨g, c, rfl, h.1, .inr ⟨g, c, cur, rfl, hr⟩⟩
theorem owns_kept {w w' : World} {base n : Nat} {v : Value} {xs : List Value} (h : w.ownsRow base 5 1 v n xs) (hb : Below w.heap.size w w') : w'.ownsRow base 5 1 v n xs := by
  refine ⟨h.1, ?_⟩
  rcases h.2 with h' | ⟨g, c, cur, rfl, hbs, hg, hr⟩
  · exact .inl h'
  · exact .inr ⟨g, c, cur, rfl, hbs, (hb.block g (Array.getElem?_eq_some_iff.mp hg).1).trans hg, hr⟩
theorem Owns.cells {w : World} {base g n c : Nat} {f : Nat → Nat} (h : Owns w base g n c f) (j : Nat) (u : Value) (hj : (bl f n)[j]? = some u) : w.cell? ((⟨g, 0, none⟩ : Addr).add j) = some u := by
  have hjn : j < n := by
    have := (List.getElem?_eq_some_iff.mp hj).1
    rwa [bl_length] at this
  have := World.ownsRow.cellAt h j (by omega)
  rw [hj] at this
  rw [← this]
  by_cases h0 : j = 0
  · subst h0; rfl
  · simp [Addr.add, h0]
theorem ownBlock_ge {w : World} {base n : Nat} {v : Value} {xs : List Value} (h : w.ownsRow base 5 1 v n xs) : ∀ k, v.ownBlock = some k → base ≤ k := by
  intro k hk
  rcases h.2 with ⟨rfl, _⟩ | ⟨g, c, cur, rfl, hbs, _⟩
  · simp [Value.ownBlock] at hk
  · simp [Value.ownBlock] at hk; omega
theorem more_bl {w : World} {base k : Nat} {v : Value} {g : Nat → Nat} (h : w.ownsRow base 5 1 v (k + 1) (bl g k ++ [Value.int .u8 ((g k : Nat) : Int)])) : w.ownsRow base 5 1 v (k + 1) (bl g (k + 1)) := by
  rw [one_bl, bl_cat] at h
  have e : bl (cat g k fun _ => g k) (k + 1) = bl g (k + 1) := bl_congr _ _ _ fun i hi => by
    unfold cat
    by_cases h1 : i < k
    · rw [if_pos h1]
    · rw [if_neg h1, show i = k by omega]
  rw [e] at h
  exact h
set_option maxHeartbeats 1000000 in
set_option maxRecDepth 100000 in
theorem refbytes_walk (g : Nat → Nat) (S : Nat) (q : Nat → Int) (w : World) (hb1 : 1 ≤ S) (hb2 : S ≤ 10) (hq : ∀ k, 0 ≤ q k ∧ q k < 18446744073709551616) (hqs : ∀ k, Hid (q k / 128 = q (k + 1)))
    (hmore : ∀ k, k + 1 < S → 128 ≤ q k ∧ q k % 128 + 128 = ((g k : Nat) : Int)) (hlast : q (S - 1) < 128 ∧ q (S - 1) = ((g (S - 1) : Nat) : Int)) :
    Calls Try.prog 44 #[.int .u64 (q 0)] w fun e w' => ∃ b c, e = .returned (mine b S c) ∧ Owns w' w.heap.size b S c g ∧ Below w.heap.size w w' := by
  obtain ⟨i0, hi, hz0, hz1, hz2⟩ := info_parts info5
  go_enter Try.func44, Try.ntmps44
  go_wp2
  go_loopw [0, 3] (fun x out wr => ∃ k : Nat, k + 1 ≤ S ∧ x = .int .u64 (q k) ∧ wr.ownsRow w.heap.size 5 1 out k (bl g k) ∧ Below w.heap.size w wr) (fun x _ _ => (intOf x).toNat)
  case atStart => exact ⟨0, by omega, rfl, World.ownsRow_nil _ _ _ _, Below.refl _ _⟩
  case round =>
    rename_i out
    obtain ⟨k, hk, rfl, ho, hbl⟩ := hrel
    obtain ⟨q0, q1⟩ := hq k
    have hqk := hqs k
    have hsz := hbl.size
    by_cases hkS : k + 1 < S
    · obtain ⟨hge, hby⟩ := hmore k hkS
      clear hmore hlast hq hqs
      go_wp2_with (at_builtin; (refine wpList_append_own _ rfl (.tmp 6) (.tmp 11) 32 rfl w.heap.size 5 i0 (.int .u8 0) 1 1 Try.underlying32 hi hz0 hz1 hz2 rfl (by decide) _ k (bl g k) rfl (ho.alloc _) ⟨wr.heap.size, 0, none⟩ 1 1 [.int .u8 ((g k : Nat) : Int)] rfl rfl (one_cell _ _ _) (one_one _) (by unfold maxLen; omega) (by omega) (by simp; omega) ?_; intro v3 w3 ho3 hg3 hn3))
      have ho4 := more_bl (g := g) ho3
      have hb4 : Below w.heap.size w w3 := (hbl.alloc hsz _).grown hg3 (by simp; omega) (ownBlock_ge ho)
      clear ho3 hg3 ho hbl hn3
      go_roundw
      case rel => exact ⟨k + 1, by omega, by rw [hqk.out], ho4, hb4⟩
      case measure => simp [intOf]; omega
    · have hkS2 : k = S - 1 := by omega
      subst hkS2
      obtain ⟨hl1, hl2⟩ := hlast
      have hl3 : Hid (q (S - 1) = ((g (S - 1) : Nat) : Int)) := hl2
      obtain ⟨qq, hqq⟩ : ∃ qq, Hid (q (S - 1) = qq) := ⟨_, rfl⟩
      have hq4 : qq = ((g (S - 1) : Nat) : Int) := by rw [← hqq.out]; exact hl2
      rw [hqq.out] at q0 q1 hl1 ⊢
      have hmod : qq % 256 = ((g (S - 1) : Nat) : Int) := by omega
      have hq5 : Hid (qq = ((g (S - 1) : Nat) : Int)) := hq4
      clear hmore hq hqs hl2 hl3 hqk hq4 hqq hmod
      go_wp2_with (at_builtin; (refine wpList_append_own _ rfl (.tmp 15) (.tmp 18) 32 rfl w.heap.size 5 i0 (.int .u8 0) 1 1 Try.underlying32 hi hz0 hz1 hz2 rfl (by decide) _ (S - 1) (bl g (S - 1)) rfl (ho.alloc _) ⟨wr.heap.size, 0, none⟩ 1 1 [.int .u8 qq] rfl rfl (one_cell _ _ _) (one_one _) (by unfold maxLen; omega) (by omega) (by simp; omega) ?_; intro v3 w3 ho3 hg3 hn3))
      rw [hq5.out] at ho3
      have ho4 := more_bl (g := g) ho3
      have hb4 : Below w.heap.size w w3 := (hbl.alloc hsz _).grown hg3 (by simp; omega) (ownBlock_ge ho)
      rw [show S - 1 + 1 = S by omega] at ho4
      obtain ⟨b, c, rfl, ho5⟩ := owns_shape ho4 (by omega)
      clear ho3 hg3 ho hbl hn3 ho4
      go_ret
      exact ⟨b, c, rfl, ho5, hb4⟩
theorem refbytes_any (x : Nat) (X : Int) (w : World) (hx : x < 18446744073709551616) (hX : X = ((x : Nat) : Int)) :
    Calls Try.prog 44 #[.int .u64 X] w fun e w' => ∃ b c, e = .returned (mine b (szN x) c) ∧ Owns w' w.heap.size b (szN x) c (gr x) ∧ Below w.heap.size w w' := by
  subst hX
  obtain ⟨hb1, hb2⟩ := szN_bd x hx
  obtain ⟨gl1, gl2⟩ := gr_last x hx
  have e0 : ((x : Nat) : Int) = (fun k => ((x / 128 ^ k : Nat) : Int)) 0 := by
    show ((x : Nat) : Int) = ((x / 128 ^ 0 : Nat) : Int)
    rw [Nat.pow_zero, Nat.div_one]
  rw [e0]
  refine refbytes_walk (gr x) (szN x) (fun k => ((x / 128 ^ k : Nat) : Int)) w hb1 hb2 ?_ ?_ ?_ ?_
  · intro k
    have := Nat.div_le_self x (128 ^ k)
    show (0 : Int) ≤ ((x / 128 ^ k : Nat) : Int) ∧ ((x / 128 ^ k : Nat) : Int) < 18446744073709551616
    generalize x / 128 ^ k = d at *
    omega
  · intro k
    show ((x / 128 ^ k : Nat) : Int) / 128 = ((x / 128 ^ (k + 1) : Nat) : Int)
    rw [Nat.pow_succ, ← Nat.div_div_eq_div_mul]
    rfl
  · intro k hk
    have h1 := (sz_pow x hx).2 (by omega)
    have h2 : 128 ≤ x / 128 ^ k := by
      rw [Nat.le_div_iff_mul_le (Nat.pow_pos (by decide)), Nat.mul_comm, ← Nat.pow_succ]
      exact Nat.le_trans (Nat.pow_le_pow_right (by decide) (by omega)) h1
    show (128 : Int) ≤ ((x / 128 ^ k : Nat) : Int) ∧ ((x / 128 ^ k : Nat) : Int) % 128 + 128 = _
    rw [gr_more x k hk]
    generalize x / 128 ^ k = d at *
    omega
  · show ((x / 128 ^ (szN x - 1) : Nat) : Int) < 128 ∧ ((x / 128 ^ (szN x - 1) : Nat) : Int) = _
    rw [gl1]
    generalize x / 128 ^ (szN x - 1) = d at *
    omega
set_option maxHeartbeats 1000000 in
set_option maxRecDepth 100000 in
theorem refput_any (a : Option Addr) (n c : Nat) (f : Nat → Nat) (x : Nat) (X : Int) (w : World) (hr : Row w a n f) (hn : a = none → n = 0 ∧ c = 0) (hl : n ≤ 140737488353000) (hx : x < 18446744073709551616) (hX : X = ((x : Nat) : Int)) :
    Calls Try.prog 23 #[.slice a n c, .int .u64 X] w fun e w' => ∃ b c, e = .returned (mine b (n + szN x) c) ∧ Owns w' w.heap.size b (n + szN x) c (cat f n (gr x)) ∧ Below w.heap.size w w' := by
  obtain ⟨i0, hi, hz0, hz1, hz2⟩ := info_parts info5
  obtain ⟨hb1, hb2⟩ := szN_bd x hx
  have c1 := fun w => refbytes_any x X w hx hX
  generalize szN x = S at *
  generalize gr x = g at *
  clear hx hX
  have src := fun ad ha => Row.cells hr ad ha
  have fin : ∀ v1 w1, w1.ownsRow w.heap.size 5 1 v1 n (bl f n) → Below w.heap.size w w1 → ∀ (b c2 : Nat) (w2 : World), Owns w2 w1.heap.size b S c2 g → Below w1.heap.size w1 w2 → w2.ownsRow w.heap.size 5 1 v1 n (bl f n) ∧ Below w.heap.size w w2 := fun v1 w1 h1 h2 b c2 w2 h3 h4 => ⟨owns_kept h1 h4, h2.trans (h4.mono h2.size)⟩
  cases a with
  | none =>
    obtain ⟨rfl, rfl⟩ := hn rfl
    have o0 : w.ownsRow w.heap.size 5 1 (.slice none 0 0) 0 (bl f 0) := World.ownsRow_nil _ _ _ _
    clear hr hn hl src
    go_enter Try.func23, Try.ntmps23
    go_wp2_with (first
      | (at_builtin; refine wpList_append_own_none rfl (.tmp 6) (.tmp 7) 32 rfl w.heap.size 5 i0 1 Try.underlying32 hi _ 0 (bl f 0) rfl o0 rfl ?_)
      | (go_at_call 44; refine (c1 _).mono ?_; rintro e w2 ⟨b, c2, rfl, ho2, hb2⟩)
      | (at_builtin; refine wpList_append_own _ rfl (.tmp 9) (.tmp 11) 32 rfl w.heap.size 5 i0 (.int .u8 0) 1 1 Try.underlying32 hi hz0 hz1 hz2 rfl (by decide) (.slice none 0 0) 0 (bl f 0) rfl (owns_kept o0 hb2) ⟨b, 0, none⟩ S c2 (bl g S) rfl (by rw [bl_length]; omega) (Owns.cells ho2) (bl_one g S) (by unfold maxLen; omega) (by omega) hb2.size ?_; intro v3 w3 ho3 hg3 hn3))
    rw [bl_cat, Nat.zero_add] at ho3
    have hb4 : Below w.heap.size w w3 := hb2.grown hg3 hb2.size (ownBlock_ge o0)
    obtain ⟨b3, c3, rfl, ho5⟩ := owns_shape ho3 (by omega)
    clear ho3 hg3 hn3
    go_ret
    exact ⟨b3, c3, rfl, ho5, hb4⟩
  | some ad =>
    have o0 : w.ownsRow w.heap.size 5 1 (.slice none 0 0) 0 [] := World.ownsRow_nil _ _ _ _
    have src' := src ad rfl
    have hlI : (n : Int) ≤ 140737488353000 := by omega
    clear hr hn hl src
    go_enter Try.func23, Try.ntmps23
    go_wp2_with (first
      | (at_builtin; refine wpList_append_own _ rfl (.tmp 6) (.tmp 7) 32 rfl w.heap.size 5 i0 (.int .u8 0) 1 1 Try.underlying32 hi hz0 hz1 hz2 rfl (by decide) (.slice none 0 0) 0 [] rfl o0 ad n c (bl f n) rfl (by rw [bl_length]; omega) src' (bl_one f n) (by unfold maxLen; omega) (by omega) (Nat.le_refl _) ?_; intro v1 w1 ho1 hg1 hn1; simp only [Nat.zero_add, List.nil_append] at ho1; have hb1w : Below w.heap.size w w1 := (Below.refl _ w).grown hg1 (Nat.le_refl _) (ownBlock_ge o0))
      | (go_at_call 44; refine (c1 _).mono ?_; rintro e w2 ⟨b, c2, rfl, ho2, hb2⟩)
      | (at_builtin; refine wpList_append_own _ rfl (.tmp 9) (.tmp 11) 32 rfl w.heap.size 5 i0 (.int .u8 0) 1 1 Try.underlying32 hi hz0 hz1 hz2 rfl (by decide) _ n (bl f n) rfl (owns_kept ho1 hb2) ⟨b, 0, none⟩ S c2 (bl g S) rfl (by rw [bl_length]; omega) (Owns.cells ho2) (bl_one g S) (by unfold maxLen; omega) (by omega) (Nat.le_trans hb1w.size hb2.size) ?_; intro v3 w3 ho3 hg3 hn3))
    rw [bl_cat] at ho3
    have hbw2 : Below w.heap.size w w2 := hb1w.trans (hb2.mono hb1w.size)
    have hb4 : Below w.heap.size w w3 := hbw2.grown hg3 hbw2.size (ownBlock_ge ho1)
    obtain ⟨b3, c3, rfl, ho5⟩ := owns_shape ho3 (by omega)
    clear ho3 hg3 hn3
    go_ret
    exact ⟨b3, c3, rfl, ho5, hb4⟩
end Go.Proofs.Ytikkgfmhnmoalaa.octet
