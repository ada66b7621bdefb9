/- A witness of which one byte is another one is not read. -/
import Derived.Test.YtikkgfmhnmoalaaM19
import Derived.Laws.BitsAllLaws
namespace Go.Proofs.Ytikkgfmhnmoalaa.pg
open Go.ChangeShapes Go.WideShapes Go.ChangeAt Go.RowKit
set_option linter.unusedVariables false
set_option linter.unusedSimpArgs false
set_option maxRecDepth 100000
theorem u8_at (G n c K : Nat) (h : K < n) : ∀ wx, (Instr.indexAt 32 (.slice (some ⟨G, 0, none⟩) n c) (.int .i64 (K : Int))).run Try.prog wx = .ok (.pointer (some ⟨G, K, none⟩)) wx := by
  intro wx
  rw [run_indexAt_slice wx 32 ⟨G, 0, none⟩ _ _ _ _ Try.underlying32, if_pos (by omega), show Try.prog.elem 32 = 5 by kernel_rfl, Try.sizeOf5 wx]
  simp only [Int.toNat_natCast]
  show Result.ok (Value.pointer (some ((⟨G, 0, none⟩ : Addr).add (K * 1)))) wx = _
  rw [add_none]
  simp
theorem row_put {w : World} {G n K x : Nat} {f g : Nat → Nat} {cur : Array Value} {t : TypeId} (hc : w.heap[G]? = some (.cells cur t (0, 0))) (h : octet.Row w (some ⟨G, 0, none⟩) n f) (hK : K < n) (hx : x < 256) (hg : ∀ i, g i = if i = K then x else f i) : octet.Row (w.setCell ⟨G, K, none⟩ (.int .u8 ((x : Nat) : Int))) (some ⟨G, 0, none⟩) n g := by
  have h1 := heap_setCell_same w G K cur t (.int .u8 ((x : Nat) : Int)) hc
  rcases h.2.2 with h0 | ⟨b, off, ha, hcell⟩
  · omega
  · simp only [Option.some.injEq, Addr.mk.injEq, and_true] at ha
    obtain ⟨rfl, rfl⟩ := ha
    have hcur : ∀ i, i < n → cur[i]? = some (.int .u8 ((f i : Nat) : Int)) := fun i hi => by
      have := hcell i hi
      rw [Nat.zero_add] at this
      simpa [World.cell?, hc] using this
    refine ⟨h.1, fun i => by rw [hg i]; split; exact hx; exact h.2.1 i, .inr ⟨G, 0, rfl, fun i hi => ?_⟩⟩
    rw [Nat.zero_add]
    refine whole_cell h1 i _ ?_
    rw [Array.getElem?_setIfInBounds, hg i]
    by_cases hik : K = i
    · subst hik
      have : K < cur.size := (Array.getElem?_eq_some_iff.mp (hcur K hK)).1
      rw [if_pos rfl, if_pos this, if_pos rfl]
    · rw [if_neg hik, if_neg (fun q => hik q.symm)]
      exact hcur i hi
theorem own_some {w : World} {lo n : Nat} {va : Option Addr} {vc : Nat} {L : List Nat} (h : OwnL w lo 5 1 va vc (L.map u8c)) (hn : L.length = n) (h0 : 0 < n) : ∃ G, va = some ⟨G, 0, none⟩ ∧ lo ≤ G ∧ G < w.heap.size := by
  rcases own_block h with ⟨_, h1, _⟩ | ⟨G, h1, h2, h3⟩
  · rw [List.length_map] at h1; omega
  · exact ⟨G, h1, h2, h3⟩
theorem tag_ownW {w : World} {lo e k : Nat} {a : Option Addr} {cap : Nat} {L : List (List Value)} (h : OwnL w lo e k a cap L) {b : Nat} (hb : b ∈ blk a) : ∃ cur, w.heap[b]? = some (Obj.cells cur e (0, 0)) := by
  rcases h.2 with ⟨q, _⟩ | ⟨g', cap', cur, q, _, hg', _⟩
  · simp only [Value.slice.injEq] at q; rw [q.1] at hb; simp [blk] at hb
  · simp only [Value.slice.injEq] at q
    rw [q.1] at hb
    simp only [blk, List.mem_singleton] at hb
    subst hb
    exact ⟨cur, hg'⟩
theorem own_more {w : World} {lo G n vc : Nat} {L : List Nat} (h : OwnL w lo 5 1 (some ⟨G, 0, none⟩) vc (L.map u8c)) (hn : L.length = n) (hb : Bt L) : ∃ cur, w.heap[G]? = some (Obj.cells cur 5 (0, 0)) ∧ octet.Row w (some ⟨G, 0, none⟩) n (fl L) ∧ n ≤ vc ∧ (vc : Int) ≤ 9223372036854775807 := by
  obtain ⟨cur, hc⟩ := tag_ownW h (b := G) (by simp [blk])
  have hR := own_rows h (u8_len _)
  have hr := rows_row hR hb
  rw [hn] at hr
  have h1 := hR.1
  rw [List.length_map, hn] at h1
  exact ⟨cur, hc, hr, h1, by have := hR.2.1; omega⟩
theorem row_cell {w : World} {G n : Nat} {f : Nat → Nat} (h : octet.Row w (some ⟨G, 0, none⟩) n f) (K : Nat) (hK : K < n) : w.cell? ⟨G, K, none⟩ = some (.int .u8 ((f K : Nat) : Int)) := by
  rcases h.2.2 with h0 | ⟨b, off, ha, hc⟩
  · omega
  · simp only [Option.some.injEq, Addr.mk.injEq, and_true] at ha
    obtain ⟨rfl, rfl⟩ := ha
    have := hc K hK
    rwa [Nat.zero_add] at this
theorem num_pos (v : Int) : 1 ≤ (numB v).length := by
  unfold numB
  rw [putB_len]
  exact (octet.szN_bd _ (by omega)).1
theorem flat_ge {α : Type} (f : α → List Nat) (h : ∀ x, 1 ≤ (f x).length) : ∀ l : List α, l.length ≤ (l.flatMap f).length
  | [] => by simp
  | a :: t => by
    have h1 := h a
    have h2 := flat_ge f h t
    rw [List.flatMap_cons, List.length_append, List.length_cons]
    omega
theorem bytes_len {M : Wi} (h : M.ok = true) : 23 ≤ M.bytes.length ∧ M.bytes.length ≤ 7000 := by
  have h1 := flat_ge (fun x : Int × Int × Int => numB x.2.2) (fun x => num_pos _) M.nums
  have h2 := nums_len M
  have h3 := body_len h
  have h4 : M.body.length = 8 + (M.nums.flatMap fun x => numB x.2.2).length := by
    unfold Wi.body
    rw [List.length_append]
    rfl
  have h5 : M.bytes.length = M.body.length + 4 := by
    unfold Wi.bytes
    rw [List.length_append]
    rfl
  omega
section
variable {w : World} {M : Wi} {pa : Option Addr} {pc : Nat}
set_option maxHeartbeats 4000000 in
theorem flips_bad (at_ u : Int) (hin : WitIn w M pa pc) (hok : M.ok = false) : Calls Try.prog 6 #[.agg (M.cells pa pc).toArray, .int .i64 at_, .int .u8 u] w fun e w' => e = .returned (.bool true) ∧ Below w.heap.size w w' := by
  have hb := boxed w (objWi M pa pc)
  have hz : Hid ((w.alloc (objWi M pa pc)).heap[w.heap.size]? = some (objWi M pa pc)) := heap_alloc_new _ _
  have huW : Hid (Try.prog.underlying 31 = _) := Try.underlying31
  have hiC : Hid ((Try.prog.info? 31).map (·.size) = some (M.cells pa pc).toArray.size) := infoW12
  have hinH : Hid (∀ wx, Below w.heap.size w wx → Rows wx 2 pa pc (M.pk.map pkC)) := fun wx h => hin.r.later h
  have cW := write_bad M pa pc (w.alloc (objWi M pa pc)) (hinH.out _ hb) (hin.b.imp_left fun h b q => by have := h b q; have := hb.size; omega) hok
  have cR : ∀ wx, Below w.heap.size w wx → Calls Try.prog 14 #[.agg (M.cells pa pc).toArray] wx fun e w' => e = .returned (.bool false) ∧ Below wx.heap.size wx w' := fun wx h => by
    have := rrightW_any M pa pc wx (hinH.out wx h) hin.v
    rwa [hok] at this
  have cS : ∀ wx, Calls Try.prog 10 #[] wx _ := fun wx => smallW_any wx
  clear hin hinH hok
  go_enter Try.func6, Try.ntmps6
  go_wp2_with (first
    | (refine wpList_load_row rfl 31 _ rfl w.heap.size rfl _ _ _ _ hz.out huW.out rfl hiC.out ?_)
    | (refine wpList_load_row rfl 31 _ rfl w.heap.size rfl _ _ _ _ hz1.out huW.out rfl hiC.out ?_)
    | (go_at_call 7; (with_reducible refine cW.mono ?_); rintro e w1 ⟨rfl, hb1⟩; (have hB1 := bthen hb hb1); (have hz1 : Hid (w1.heap[w.heap.size]? = some (objWi M pa pc)) := (hb1.block _ (by rw [World.size_alloc]; omega)).trans hz.out))
    | (go_at_call 14; (with_reducible refine (cR _ hB1).mono ?_); rintro e w2 ⟨rfl, hb2⟩)
    | (go_at_call 10; (with_reducible refine (cS _).mono ?_); rintro e w3 ⟨rfl, hb3⟩))
  go_ret
  exact ⟨rfl, bthen (bthen hB1 hb2) hb3⟩
set_option maxHeartbeats 4000000 in
theorem flips_low (at_ u : Int) (hin : WitIn w M pa pc) (hok : M.ok = true) (hlow : at_ < 0) : Calls Try.prog 6 #[.agg (M.cells pa pc).toArray, .int .i64 at_, .int .u8 u] w fun e w' => e = .returned (.bool true) ∧ Below w.heap.size w w' := by
  have hb := boxed w (objWi M pa pc)
  have hz : Hid ((w.alloc (objWi M pa pc)).heap[w.heap.size]? = some (objWi M pa pc)) := heap_alloc_new _ _
  have huW : Hid (Try.prog.underlying 31 = _) := Try.underlying31
  have hiC : Hid ((Try.prog.info? 31).map (·.size) = some (M.cells pa pc).toArray.size) := infoW12
  have hinH : Hid (∀ wx, Below w.heap.size w wx → Rows wx 2 pa pc (M.pk.map pkC)) := fun wx h => hin.r.later h
  obtain ⟨hmin, hmax⟩ := bytes_len hok
  obtain ⟨n, hn⟩ : ∃ n, Hid (M.bytes.length = n) := ⟨_, rfl⟩
  have cW := write_ok M pa pc (w.alloc (objWi M pa pc)) (hinH.out _ hb) (hin.b.imp_left fun h b q => by have := h b q; have := hb.size; omega) hin.s0 hin.s1 hok
  rw [hn.out] at cW hmin hmax
  have hminI : (23 : Int) ≤ n := by omega
  clear hin hinH hok
  go_enter Try.func6, Try.ntmps6
  go_wp2_with (first
    | (refine wpList_load_row rfl 31 _ rfl w.heap.size rfl _ _ _ _ hz.out huW.out rfl hiC.out ?_)
    | (go_at_call 7; (with_reducible refine cW.mono ?_); rintro e w1 ⟨va, vc, rfl, ho1, hb1⟩))
  go_ret
  exact ⟨rfl, bthen hb hb1⟩
set_option maxHeartbeats 4000000 in
theorem flips_high (at_ u : Int) (hin : WitIn w M pa pc) (hok : M.ok = true) (h0 : 0 ≤ at_) (hhi : (M.bytes.length : Int) ≤ at_) : Calls Try.prog 6 #[.agg (M.cells pa pc).toArray, .int .i64 at_, .int .u8 u] w fun e w' => e = .returned (.bool true) ∧ Below w.heap.size w w' := by
  have hb := boxed w (objWi M pa pc)
  have hz : Hid ((w.alloc (objWi M pa pc)).heap[w.heap.size]? = some (objWi M pa pc)) := heap_alloc_new _ _
  have huW : Hid (Try.prog.underlying 31 = _) := Try.underlying31
  have hiC : Hid ((Try.prog.info? 31).map (·.size) = some (M.cells pa pc).toArray.size) := infoW12
  have hinH : Hid (∀ wx, Below w.heap.size w wx → Rows wx 2 pa pc (M.pk.map pkC)) := fun wx h => hin.r.later h
  obtain ⟨hmin, hmax⟩ := bytes_len hok
  obtain ⟨n, hn⟩ : ∃ n, Hid (M.bytes.length = n) := ⟨_, rfl⟩
  have cW := write_ok M pa pc (w.alloc (objWi M pa pc)) (hinH.out _ hb) (hin.b.imp_left fun h b q => by have := h b q; have := hb.size; omega) hin.s0 hin.s1 hok
  rw [hn.out] at cW hmin hmax
  have hminI : (23 : Int) ≤ n := by omega
  rw [hn.out] at hhi
  clear hin hinH hok
  go_enter Try.func6, Try.ntmps6
  go_wp2_with (first
    | (refine wpList_load_row rfl 31 _ rfl w.heap.size rfl _ _ _ _ hz.out huW.out rfl hiC.out ?_)
    | (go_at_call 7; (with_reducible refine cW.mono ?_); rintro e w1 ⟨va, vc, rfl, ho1, hb1⟩))
  go_ret
  exact ⟨rfl, bthen hb hb1⟩
set_option maxHeartbeats 4000000 in
theorem flips_none (K : Nat) (hin : WitIn w M pa pc) (hok : M.ok = true) (hKn : K < M.bytes.length) : Calls Try.prog 6 #[.agg (M.cells pa pc).toArray, .int .i64 (K : Int), .int .u8 0] w fun e w' => e = .returned (.bool true) ∧ Below w.heap.size w w' := by
  have hb := boxed w (objWi M pa pc)
  have hz : Hid ((w.alloc (objWi M pa pc)).heap[w.heap.size]? = some (objWi M pa pc)) := heap_alloc_new _ _
  have huW : Hid (Try.prog.underlying 31 = _) := Try.underlying31
  have hiC : Hid ((Try.prog.info? 31).map (·.size) = some (M.cells pa pc).toArray.size) := infoW12
  have hinH : Hid (∀ wx, Below w.heap.size w wx → Rows wx 2 pa pc (M.pk.map pkC)) := fun wx h => hin.r.later h
  obtain ⟨hmin, hmax⟩ := bytes_len hok
  obtain ⟨n, hn⟩ : ∃ n, Hid (M.bytes.length = n) := ⟨_, rfl⟩
  have cW := write_ok M pa pc (w.alloc (objWi M pa pc)) (hinH.out _ hb) (hin.b.imp_left fun h b q => by have := h b q; have := hb.size; omega) hin.s0 hin.s1 hok
  rw [hn.out] at cW hmin hmax
  have hminI : (23 : Int) ≤ n := by omega
  rw [hn.out] at hKn
  have hKI : (K : Int) < n := by omega
  clear hin hinH hok
  go_enter Try.func6, Try.ntmps6
  go_wp2_with (first
    | (refine wpList_load_row rfl 31 _ rfl w.heap.size rfl _ _ _ _ hz.out huW.out rfl hiC.out ?_)
    | (go_at_call 7; (with_reducible refine cW.mono ?_); rintro e w1 ⟨va, vc, rfl, ho1, hb1⟩))
  go_ret
  exact ⟨rfl, bthen hb hb1⟩
set_option maxHeartbeats 4000000 in
theorem flips_ok (K U : Nat) (hin : WitIn w M pa pc) (hok : M.ok = true) (hKn : K < M.bytes.length) (hU0 : U ≠ 0) (hU : U < 256) : Calls Try.prog 6 #[.agg (M.cells pa pc).toArray, .int .i64 (K : Int), .int .u8 (U : Int)] w fun e w' => e = .returned (.bool true) ∧ Below w.heap.size w w' := by
  have hb := boxed w (objWi M pa pc)
  have hz : Hid ((w.alloc (objWi M pa pc)).heap[w.heap.size]? = some (objWi M pa pc)) := heap_alloc_new _ _
  have huW : Hid (Try.prog.underlying 31 = _) := Try.underlying31
  have hiC : Hid ((Try.prog.info? 31).map (·.size) = some (M.cells pa pc).toArray.size) := infoW12
  have hinH : Hid (∀ wx, Below w.heap.size w wx → Rows wx 2 pa pc (M.pk.map pkC)) := fun wx h => hin.r.later h
  obtain ⟨hmin, hmax⟩ := bytes_len hok
  obtain ⟨n, hn⟩ : ∃ n, Hid (M.bytes.length = n) := ⟨_, rfl⟩
  have cW := write_ok M pa pc (w.alloc (objWi M pa pc)) (hinH.out _ hb) (hin.b.imp_left fun h b q => by have := h b q; have := hb.size; omega) hin.s0 hin.s1 hok
  rw [hn.out] at cW hmin hmax
  have hminI : (23 : Int) ≤ n := by omega
  rw [hn.out] at hKn
  have hKI : (K : Int) < n := by omega
  have hu := (back_pure M hin.s0 hin.s1 hok).1
  have hbt0 := bt_bytes M hin.s0 hin.s1
  obtain ⟨L, hL⟩ : ∃ L, Hid (M.bytes = L) := ⟨_, rfl⟩
  have hLn : Hid (L.length = n) := by show _ = _; rw [← hL.out]; exact hn.out
  rw [hL.out] at cW hbt0 hu
  rw [hLn.out] at hu
  have hbt : Hid (Bt L) := hbt0
  have hx : fl L K ^^^ U < 256 := Nat.xor_lt_two_pow (n := 8) (fl_lt hbt0 K) hU
  obtain ⟨g, hg⟩ : ∃ g : Nat → Nat, Hid (∀ i, g i = if i = K then fl L K ^^^ U else fl L i) := ⟨_, fun i => rfl⟩
  have hgl : ∀ i, g i < 256 := fun i => by rw [hg.out i]; split; exact hx; exact fl_lt hbt0 i
  have hE : (unfP g n).1 ≠ 0 := flip_pure (f := fl L) (K := K) (fl_lt hbt0) hgl hu hKn (by
    rw [hg.out K, if_pos rfl]
    intro q
    have : fl L K ^^^ (fl L K ^^^ U) = fl L K ^^^ fl L K := by rw [← q]
    rw [← Nat.xor_assoc, Nat.xor_self, Nat.zero_xor] at this
    exact hU0 this) (fun i hi => by rw [hg.out i, if_neg hi])
  have cD : ∀ wx G vc, octet.Row wx (some ⟨G, 0, none⟩) n g → n ≤ vc → (vc : Int) ≤ 9223372036854775807 → Calls Try.prog 11 #[.slice (some ⟨G, 0, none⟩) n vc] wx fun e w' => e = .returned (.tuple #[.agg zeA, .int .i64 (unfP g n).1, .int .i64 (unfP g n).2]) ∧ Below wx.heap.size wx w' := fun wx G vc h1 h2 h3 => read_unfit _ _ _ _ _ h1 h2 h3 hE
  have cE : ∀ wx, Calls Try.prog 13 #[.agg zeA, .agg zeA] wx fun e w' => e = .returned (.bool true) ∧ Below wx.heap.size wx w' := fun wx => sameW_any zeroWi none none 0 0 wx ⟨Nat.le_refl _, by decide, fun _ => ⟨rfl, rfl⟩, .inl rfl⟩ ⟨Nat.le_refl _, by decide, fun _ => ⟨rfl, rfl⟩, .inl rfl⟩
  have hE2 : ((unfP g n).1 == 0) = false := by simpa using hE
  have hE3 : ((unfP g n).1 != 0) = true := by simpa using hE
  have hxor : bits .xor .u8 ((fl L K : Nat) : Int) (U : Int) = ((fl L K ^^^ U : Nat) : Int) := u8_xor_nat (fl L K) U (fl_lt hbt0 K) hU
  have hUI : ((U : Int) == 0) = false := by simp; omega
  have hn0 : 0 < n := by omega
  generalize unfP g n = D at *
  clear hin hinH hok hu hbt0 hE hgl
  go_enter Try.func6, Try.ntmps6
  go_wp2_with (first
    | (refine wpList_load_row rfl 31 _ rfl w.heap.size rfl _ _ _ _ hz.out huW.out rfl hiC.out ?_)
    | (go_at_call 7; (with_reducible refine cW.mono ?_); rintro e w1 ⟨va, vc, rfl, ho1, hb1⟩; (have B1 := bthen hb hb1);
        obtain ⟨G, hva, hG1, hG2⟩ := own_some ho1 hLn.out hn0; subst hva;
        obtain ⟨cur, hcur, hrow, hv1, hv2⟩ := own_more ho1 hLn.out hbt.out;
        (have hix := u8_at G n vc K hKn); (have hcl := row_cell hrow K hKn); (have hfz := fun o => whole_frozen hcur o);
        (have hrs : Hid (octet.Row (w1.setCell ⟨G, K, none⟩ (.int .u8 ((fl L K ^^^ U : Nat) : Int))) (some ⟨G, 0, none⟩) n g) := row_put hcur hrow hKn hx hg.out);
        (have B4 : Hid (Below w.heap.size w (w1.setCell ⟨G, K, none⟩ (.int .u8 ((fl L K ^^^ U : Nat) : Int)))) := B1.setCell (p := ⟨G, K, none⟩) (by rw [World.size_alloc] at hG1; show _ ≤ G; omega) _))
    | (go_at_call 11; (with_reducible refine (cD _ G vc hrs.out hv1 hv2).mono ?_); rintro e w5 ⟨rfl, b5⟩; (have B5 : Hid (Below w.heap.size w (w5.alloc (.cells zeA 31))) := bthen (bthen B4.out b5) (boxed _ _)); (have l1 := heap_alloc_new w5 (.cells zeA 31)); (obtain ⟨k0, k1, k2, k3, k4, k5, k6, k7, k8, k9, k10, k11⟩ := cells12 l1); clear l1)
    | (go_at_call 13; (with_reducible refine (cE _).mono ?_); rintro e w7 ⟨rfl, b7⟩))
  go_ret
  exact ⟨rfl, bthen B5.out b7⟩
end
theorem flips_any (M : Wi) (pa : Option Addr) (pc : Nat) (at_ u : Int) (w : World) (hin : WitIn w M pa pc) (hu0 : 0 ≤ u) (hu1 : u < 256) : Calls Try.prog 6 #[.agg (M.cells pa pc).toArray, .int .i64 at_, .int .u8 u] w fun e w' => e = .returned (.bool true) ∧ Below w.heap.size w w' := by
  rcases Bool.eq_false_or_eq_true M.ok with hok | hok
  · by_cases h0 : at_ < 0
    · exact flips_low at_ u hin hok h0
    · by_cases h1 : (M.bytes.length : Int) ≤ at_
      · exact flips_high at_ u hin hok (by omega) h1
      · obtain ⟨K, rfl⟩ : ∃ K : Nat, at_ = K := ⟨at_.toNat, by omega⟩
        obtain ⟨U, rfl⟩ : ∃ U : Nat, u = U := ⟨u.toNat, by omega⟩
        by_cases h2 : U = 0
        · subst h2; exact flips_none K hin hok (by omega)
        · exact flips_ok K U hin hok (by omega) h2 (by omega)
  · exact flips_bad at_ u hin hok
theorem flips_row (M : Wi) (pa : Option Addr) (pc : Nat) (at_ u : Int) (w : World) (hin : WitIn w M pa pc) (h1 : (Lit.int .i64 at_).wf = true) (h2 : (Lit.int .u8 u).wf = true) : Calls Try.prog 6 #[.agg (M.cells pa pc).toArray, .int .i64 at_, .int .u8 u] w fun e w' => e = .returned (.bool true) ∧ Below w.heap.size w w' :=
  flips_any M pa pc at_ u w hin (octet.wf_byte h2).1 (by have := (octet.wf_byte h2).2; omega)
end Go.Proofs.Ytikkgfmhnmoalaa.pg

