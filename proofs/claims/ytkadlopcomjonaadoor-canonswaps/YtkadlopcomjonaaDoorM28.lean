/- Events as they are compared. -/
import Derived.Test.YtkadlopcomjonaaDoorM27
import Derived.Maps.OwnOps
import Derived.Maps.OwnSet
import Derived.DeepKeys4
import Derived.MapViews
import Derived.Laws.StructEq
import Derived.Test.YtkadlopcomjonaaDoorM26
import Derived.Test.YtkadlopcomjonaaDoorM18
import Derived.Test.YtkadlopcomjonaaDoorM22
namespace Go.Proofs.YtkadlopcomjonaaDoor.pg
open Go.ChangeShapes Go.WideShapes Go.ChangeAt Go.RowKit Go.Shelf
open Go.Maps (Keyed IsMap Tidy)
set_option linter.unusedVariables false
set_option linter.unusedSimpArgs false
set_option maxRecDepth 100000
def Rdb (n : Nat) (t : TypeId) (cs : List Value) : Prop := ∃ y, DataW.trod (H := Unit) (fun _ => ()) Tryd.prog default 0 (fun _ => true) true n t cs = some y
theorem mapM_ex {α β : Type} (f : α → Option β) : ∀ (l : List α), (∀ x ∈ l, ∃ y, f x = some y) → ∃ ys, l.mapM f = some ys
  | [], _ => ⟨[], rfl⟩
  | x :: l, h => by
    obtain ⟨y, hy⟩ := h x (by simp)
    obtain ⟨ys, hys⟩ := mapM_ex f l fun z hz => h z (by simp [hz])
    exact ⟨y :: ys, by simp [List.mapM_cons, hy, hys]⟩
theorem rdb_int {t : TypeId} (ht : Tryd.prog.underlying t = some (.int .i64)) (n : Nat) {z : Int} (hz : I64 z) : Rdb (n + 1) t [.int .i64 z] :=
  ⟨_, trod_int_mk n ht (by simp [Lit.wf, IntKind.min, IntKind.max, IntKind.bits, IntKind.signed]; exact hz)⟩
theorem rdb_bool {t : TypeId} (ht : Tryd.prog.underlying t = some .bool) (n : Nat) (z : Bool) : Rdb (n + 1) t [.bool z] :=
  ⟨(.lit (.bool z), []), by simp [DataW.trod, ht, Lit.wf]⟩
theorem rdb_struct {t : TypeId} {fs : Array Field} {n : Nat} {cs : List Value} (ht : Tryd.prog.underlying t = some (.struct fs)) (hl : cs.length = Tryd.prog.cellsOf t) (h : ∀ f ∈ fs.toList, Rdb n f.type ((cs.drop f.offset).take (Tryd.prog.cellsOf f.type))) : Rdb (n + 1) t cs := by
  obtain ⟨xs, hxs⟩ := mapM_ex (fun f : Field => DataW.trod (H := Unit) (fun _ => ()) Tryd.prog default 0 (fun _ => true) true n f.type ((cs.drop f.offset).take (Tryd.prog.cellsOf f.type))) fs.toList h
  exact ⟨_, trod_struct_mk ht hl hxs⟩
theorem rdb_array {t e : TypeId} {k n m : Nat} {cs : List Value} (ht : Tryd.prog.underlying t = some (.array k e)) (hl : cs.length = Tryd.prog.cellsOf t) (h : ∀ i, i < k → Rdb n e ((cs.drop (i * Tryd.prog.cellsOf e)).take (Tryd.prog.cellsOf e))) : Rdb (n + 1) t cs := by
  obtain ⟨xs, hxs⟩ := mapM_ex (fun i : Nat => DataW.trod (H := Unit) (fun _ => ()) Tryd.prog default 0 (fun _ => true) true n e ((cs.drop (i * Tryd.prog.cellsOf e)).take (Tryd.prog.cellsOf e))) (List.range k) (fun i hi => h i (List.mem_range.mp hi))
  refine ⟨(.agg (xs.map (·.1)), xs.flatMap (·.2)), ?_⟩
  unfold DataW.trod
  rw [ht]
  split <;> simp_all
theorem eq_deep {t : TypeId} (K : Keyed Tryd.prog t) {a b : Array Value} {la lb : Lit} (ha : keyOf Tryd.prog t (.agg a) = some la) (hb : keyOf Tryd.prog t (.agg b) = some lb) (hk : Tryd.prog.keyTypeAt 6 t = true) (hw : (match Tryd.prog.underlying t with | some (.array _ _) | some (.struct _) => true | _ => false) = true) (R : Bool) (hR : R = true ↔ a = b) (w : World) :
    (Op.equalIn 10000 t (.agg a) (.agg b)).run Tryd.prog w = .ok R w := by
  obtain ⟨r, hr, hiff⟩ := run_equal_deep (P := Tryd.prog) w (m := 6) (by omega) (k := t) hk hw ha hb
  have e : r = R := by
    rw [Bool.eq_iff_iff, hiff, hR]
    constructor
    · intro q
      have := K.inj ha (q ▸ hb)
      simpa using this
    · intro q
      subst q
      rw [ha] at hb
      exact Option.some.inj hb
  rw [e] at hr
  exact hr
theorem rdb_acc {x : Acc} (h : x.wf) (n : Nat) : Rdb (n + 2) 39 x.cells := by
  refine rdb_struct Tryd.underlying39 (by show 3 = _; kernel_rfl) fun f hf => ?_
  simp only [List.mem_cons, List.not_mem_nil, or_false] at hf
  have c1 : Tryd.prog.cellsOf 3 = 1 := by kernel_rfl
  have cb : Tryd.prog.cellsOf 4 = 1 := by kernel_rfl
  rcases hf with rfl | rfl | rfl
  · simp only [c1]; exact rdb_int Tryd.underlying3 _ h.1
  · simp only [c1]; exact rdb_int Tryd.underlying3 _ h.2
  · simp only [cb]; exact rdb_bool Tryd.underlying4 _ _
theorem rdb_ev {x : Ev} (h : x.wf) (n : Nat) : Rdb (n + 4) 42 x.cells := by
  refine rdb_struct Tryd.underlying42 (by show 26 = _; kernel_rfl) fun f hf => ?_
  simp only [List.mem_cons, List.not_mem_nil, or_false] at hf
  have c1 : Tryd.prog.cellsOf 3 = 1 := by kernel_rfl
  have c2 : Tryd.prog.cellsOf 2 = 1 := by kernel_rfl
  have c3 : Tryd.prog.cellsOf 37 = 1 := by kernel_rfl
  have cA : Tryd.prog.cellsOf 40 = 18 := by kernel_rfl
  have ca : Tryd.prog.cellsOf 39 = 3 := by kernel_rfl
  obtain ⟨⟨h0, h1, h2, h3, h4, h5, h6⟩, hl, hn⟩ := h
  rcases hf with rfl | rfl | rfl | rfl | rfl | rfl | rfl | rfl | rfl
  · simp only [c1]; exact rdb_int Tryd.underlying3 _ h0
  · simp only [c1]; exact rdb_int Tryd.underlying3 _ h1
  · simp only [c1]; exact rdb_int Tryd.underlying3 _ h2
  · simp only [c3]; exact rdb_int Tryd.underlying37 _ h3
  · simp only [c1]; exact rdb_int Tryd.underlying3 _ h4
  · simp only [c2]; exact rdb_int Tryd.underlying2 _ h5
  · simp only [c2]; exact rdb_int Tryd.underlying2 _ h6
  · simp only [cA]
    refine rdb_array (m := 0) Tryd.underlying40 (by rw [cA]; rfl) fun i hi => ?_
    rw [ca]
    match i, hi with
    | 0, _ => exact rdb_acc (hl x.t0 (by simp [Ev.list])) _
    | 1, _ => exact rdb_acc (hl x.t1 (by simp [Ev.list])) _
    | 2, _ => exact rdb_acc (hl x.t2 (by simp [Ev.list])) _
    | 3, _ => exact rdb_acc (hl x.t3 (by simp [Ev.list])) _
    | 4, _ => exact rdb_acc (hl x.t4 (by simp [Ev.list])) _
    | 5, _ => exact rdb_acc (hl x.t5 (by simp [Ev.list])) _
  · simp only [c1]; exact rdb_int Tryd.underlying3 _ hn
theorem lawEv : Keyed Tryd.prog 42 := Keyed.of_law (deep_law_laid (by kernel_rfl) (m := 6) (by omega) (of_decide_eq_true (by kernel_rfl)) (by kernel_rfl) (by rw [Tryd.underlying42]))
theorem key_ev {x : Ev} (h : x.wf) : ∃ l, keyOf Tryd.prog 42 (.agg x.cells.toArray) = some l := by
  obtain ⟨⟨d, p⟩, hy⟩ := rdb_ev h 0
  exact ⟨_, (keyOf_asKey (by kernel_rfl) (by rw [Tryd.underlying42]) (by simp only [Value.formed, Tryd.underlying42, List.size_toArray]; kernel_rfl) ⟨_, hy⟩).1⟩
theorem Ev.inj {x y : Ev} (h : x.cells = y.cells) : x = y := by
  obtain ⟨a0, a1, a2, a3, a4, a5, a6, ⟨b0, b1, b2⟩, ⟨b3, b4, b5⟩, ⟨b6, b7, b8⟩, ⟨b9, b10, b11⟩, ⟨b12, b13, b14⟩, ⟨b15, b16, b17⟩, c⟩ := x
  obtain ⟨a0', a1', a2', a3', a4', a5', a6', ⟨b0', b1', b2'⟩, ⟨b3', b4', b5'⟩, ⟨b6', b7', b8'⟩, ⟨b9', b10', b11'⟩, ⟨b12', b13', b14'⟩, ⟨b15', b16', b17'⟩, c'⟩ := y
  simp only [Ev.cells, List.cons.injEq, Value.int.injEq, Value.bool.injEq, true_and, and_true] at h
  simp only [Ev.mk.injEq, Acc.mk.injEq]
  obtain ⟨h0, h1, h2, h3, h4, h5, h6, g0, g1, g2, g3, g4, g5, g6, g7, g8, g9, g10, g11, g12, g13, g14, g15, g16, g17, hc⟩ := h
  exact ⟨h0, h1, h2, h3, h4, h5, h6, ⟨g0, g1, g2⟩, ⟨g3, g4, g5⟩, ⟨g6, g7, g8⟩, ⟨g9, g10, g11⟩, ⟨g12, g13, g14⟩, ⟨g15, g16, g17⟩, hc⟩
/-- Two events are equal just where they say the same. -/
theorem eq_ev {x y : Ev} (hx : x.wf) (hy : y.wf) (R : Bool) (hR : R = true ↔ x = y) (w : World) : (Op.equalIn 10000 42 (.agg x.cells.toArray) (.agg y.cells.toArray)).run Tryd.prog w = .ok R w := by
  obtain ⟨la, ha⟩ := key_ev hx
  obtain ⟨lb, hb⟩ := key_ev hy
  exact eq_deep lawEv ha hb (by kernel_rfl) (by rw [Tryd.underlying42]) R (hR.trans ⟨fun q => by rw [q], fun q => Ev.inj (by simpa using q)⟩) w
theorem ne_ev {x y : Ev} (hx : x.wf) (hy : y.wf) (R : Bool) (hR : R = true ↔ ¬ x = y) (w : World) : (binOp .neq 42 (.agg x.cells.toArray) (.agg y.cells.toArray)).run Tryd.prog w = .ok (.bool R) w := by
  rw [run_neq_struct, eq_ev hx hy (!R) (by cases R <;> simp at hR ⊢ <;> exact hR)]
  cases R <;> rfl
theorem ne_self {x : Ev} (hx : x.wf) (w : World) : (binOp .neq 42 (.agg x.cells.toArray) (.agg x.cells.toArray)).run Tryd.prog w = .ok (.bool false) w := ne_ev hx hx false (by simp) w
end Go.Proofs.YtkadlopcomjonaaDoor.pg
/- look of package order, of places that are wrong; and what every call that looks answers then. -/
namespace Go.Proofs.YtkadlopcomjonaaDoor.pg
open Go.ChangeShapes Go.WideShapes Go.ChangeAt Go.RowKit Go.Shelf
set_option linter.unusedVariables false
set_option linter.unusedSimpArgs false
set_option maxRecDepth 100000
attribute [local go_sem ↓] Go.wp_at_zero Go.wp_at_succ
/-- What look tells of events and places that are not right. -/
def lookP (l : List Ev) (ps : List Int) (c : Int) : Prop := (checkP l c ∧ (c = 2 ∨ c = 7)) ∨ (checkP l 0 ∧ (256 < ps.length ∧ c = 2 ∨ ps.length ≤ 256 ∧ (∃ p ∈ ps, ¬ (0 ≤ p ∧ p < l.length)) ∧ c = 1))
def inR (l : List Ev) (p : Int) : Prop := 0 ≤ p ∧ p < l.length
theorem look_ex {l : List Ev} (ps : List Int) : (checkP l 0 ∧ ps.length ≤ 256 ∧ ∀ p ∈ ps, 0 ≤ p ∧ p < l.length) ∨ ∃ c, lookP l ps c := by
  obtain ⟨c, hc⟩ := check_ex l
  by_cases h0 : c = 0
  · subst h0
    by_cases h1 : ps.length ≤ 256
    · by_cases h2 : ∀ p ∈ ps, 0 ≤ p ∧ p < l.length
      · exact .inl ⟨hc, h1, h2⟩
      · right
        refine ⟨1, .inr ⟨hc, .inr ⟨h1, ?_, rfl⟩⟩⟩
        apply Classical.byContradiction
        intro q
        exact h2 fun p hp => Classical.byContradiction fun q2 => q ⟨p, hp, q2⟩
    · exact .inr ⟨2, .inr ⟨hc, .inl ⟨by omega, rfl⟩⟩⟩
  · exact .inr ⟨c, .inl ⟨hc, by rcases hc with ⟨_, q⟩ | ⟨_, _, q⟩ | ⟨_, _, q⟩ <;> omega⟩⟩
set_option maxHeartbeats 2000000 in
theorem look_long (l : List Ev) (la : Option Addr) (lc : Nat) (n : Nat) (pa : Option Addr) (pc : Nat) (w : World) (hl : Rows w 26 la lc (l.map Ev.cells)) (hc : checkP l 0) (hn : 256 < n) (hnI : (n : Int) ≤ 9223372036854775807) :
    Calls Tryd.prog 55 #[.slice la l.length lc, .slice pa n pc] w fun e w' => e = .returned (.tuple #[relZ, .int .i64 2]) ∧ Below w.heap.size w w' := by
  have c1 : ∀ wx, Below w.heap.size w wx → Calls Tryd.prog 61 #[.slice la l.length lc] wx fun e w' => e = .returned (.int .i64 0) ∧ Below wx.heap.size wx w' := fun wx hb => check_any l la lc wx (hl.later hb) 0 hc
  have hlI := rows_len hl
  have hnI2 : (256 : Int) < n := by omega
  have bx := boxed w (.cells #[.slice none 0 0, .slice none 0 0, .slice none 0 0] 105)
  have hn := heap_alloc_new w (.cells #[.slice none 0 0, .slice none 0 0, .slice none 0 0] 105)
  clear hl hc
  go_enter Tryd.func55, Tryd.ntmps55
  go_wp2_with (first
    | (go_at_call 61; (with_reducible refine (c1 _ bx).mono ?_); rintro e w1 ⟨rfl, hb1⟩; (have hn1 : Hid (w1.heap[w.heap.size]? = some (.cells #[.slice none 0 0, .slice none 0 0, .slice none 0 0] 105)) := (hb1.block _ (by rw [World.size_alloc]; omega)).trans hn); (have hbw1 : Hid (Below w.heap.size w w1) := bthen bx hb1); clear hb1 c1 bx hn)
    | (refine wpList_store_row rfl 105 _ _ rfl w.heap.size _ rfl rfl _ _ hn1.out infoR rfl (one3 _ _ _ _ _ _ _ _ _) ?_))
  exact bodyPost_ret (results_rel Tryd.results55 _ _ w.heap.size #[.slice none 0 0, .slice none 0 0, .slice none 0 0] _ rfl rfl rfl (setRow_heap _ w.heap.size _ _ _ _ hn1.out)) rfl ⟨rfl, below_setRow hbw1.out (Nat.le_refl _) _⟩
set_option maxHeartbeats 2000000 in
theorem look_out (l : List Ev) (la : Option Addr) (lc : Nat) (ps : List Int) (pa : Option Addr) (pc : Nat) (w : World) (hl : Rows w 26 la lc (l.map Ev.cells)) (hp : Rows w 1 pa pc (ps.map chCells)) (hc : checkP l 0) (hps : ps.length ≤ 256) (hin : ∃ p ∈ ps, ¬ (0 ≤ p ∧ p < l.length)) :
    Calls Tryd.prog 55 #[.slice la l.length lc, .slice pa ps.length pc] w fun e w' => e = .returned (.tuple #[relZ, .int .i64 1]) ∧ Below w.heap.size w w' := by
  have c1 : ∀ wx, Below w.heap.size w wx → Calls Tryd.prog 61 #[.slice la l.length lc] wx fun e w' => e = .returned (.int .i64 0) ∧ Below wx.heap.size wx w' := fun wx hb => check_any l la lc wx (hl.later hb) 0 hc
  have hlI := rows_len hl
  have hpI := rows_len hp
  have hpH : Hid (Rows w 1 pa pc (ps.map chCells)) := hp
  have hinH : Hid (∃ p ∈ ps, ¬ (0 ≤ p ∧ p < l.length)) := hin
  have hpI2 : ¬ (256 : Int) < ps.length := by omega
  have bx := boxed w (.cells #[.slice none 0 0, .slice none 0 0, .slice none 0 0] 105)
  have hn := heap_alloc_new w (.cells #[.slice none 0 0, .slice none 0 0, .slice none 0 0] 105)
  clear hl hp hin hc
  go_enter Tryd.func55, Tryd.ntmps55
  go_wp2_with (first
    | (go_at_call 61; (with_reducible refine (c1 _ bx).mono ?_); rintro e w1 ⟨rfl, hb1⟩))
  have hbw1 : Hid (Below w.heap.size w w1) := bthen bx hb1
  have hn1 : Hid (w1.heap[w.heap.size]? = some (.cells #[.slice none 0 0, .slice none 0 0, .slice none 0 0] 105)) := (hb1.block _ (by rw [World.size_alloc]; omega)).trans hn
  clear c1 bx hn hb1
  go_loopw [23] (fun u wr => ∃ k : Nat, k ≤ ps.length ∧ u = .int .i64 k ∧ wr = w1 ∧ Hid (∀ p ∈ ps.take k, 0 ≤ p ∧ p < l.length)) (fun u _ => ps.length - (intOf u).toNat)
  case atStart => exact ⟨0, Nat.zero_le _, rfl, rfl, fun p hp => by simp at hp⟩
  case round =>
    obtain ⟨k, hk, rfl, rfl, hall⟩ := hrel
    by_cases hlt : k < ps.length
    · obtain ⟨y, hy, hym⟩ := get_lt ps k hlt
      obtain ⟨b1, o1, hix1, hbl1, c1⟩ := ch_ix (hpH.out.later hbw1.out) k y hy
      have hkI : (k : Int) < ps.length := by omega
      have hmore : Hid (0 ≤ y ∧ y < l.length → ∀ p ∈ ps.take (k + 1), 0 ≤ p ∧ p < l.length) := fun q p hp => by
        rw [take_one ps k y hy, List.mem_append, List.mem_singleton] at hp
        rcases hp with hp | rfl
        · exact hall.out p hp
        · exact q
      clear hall hy hym
      by_cases y0 : y < 0
      · go_wp2_with (first
          | (refine wpList_store_row rfl 105 _ _ rfl w.heap.size _ rfl rfl _ _ hn1.out infoR rfl (one3 _ _ _ _ _ _ _ _ _) ?_))
        exact bodyPost_ret (results_rel Tryd.results55 _ _ w.heap.size #[.slice none 0 0, .slice none 0 0, .slice none 0 0] _ rfl rfl rfl (setRow_heap _ w.heap.size _ _ _ _ hn1.out)) rfl ⟨rfl, below_setRow hbw1.out (Nat.le_refl _) _⟩
      · have y0d : decide (y < 0) = false := by simpa using y0
        by_cases y1 : (l.length : Int) ≤ y
        · clear y0
          go_wp2_with (first
            | (refine wpList_store_row rfl 105 _ _ rfl w.heap.size _ rfl rfl _ _ hn1.out infoR rfl (one3 _ _ _ _ _ _ _ _ _) ?_))
          exact bodyPost_ret (results_rel Tryd.results55 _ _ w.heap.size #[.slice none 0 0, .slice none 0 0, .slice none 0 0] _ rfl rfl rfl (setRow_heap _ w.heap.size _ _ _ _ hn1.out)) rfl ⟨rfl, below_setRow hbw1.out (Nat.le_refl _) _⟩
        · have hm2 : Hid (∀ p ∈ ps.take (k + 1), 0 ≤ p ∧ p < l.length) := hmore.out ⟨by omega, by omega⟩
          go_wp2
          go_roundw
          case rel => exact ⟨k + 1, by omega, by go_num, trivial, hm2⟩
          case measure => simp [intOf]; omega
    · exfalso
      have hk2 : k = ps.length := by omega
      subst hk2
      rw [List.take_length] at hall
      obtain ⟨p, hp, hq⟩ := hinH.out
      exact hq (hall.out p hp)
/-- look, of whatever is wrong. -/
theorem look_err (l : List Ev) (la : Option Addr) (lc : Nat) (ps : List Int) (pa : Option Addr) (pc : Nat) (w : World) (hl : Rows w 26 la lc (l.map Ev.cells)) (hp : Rows w 1 pa pc (ps.map chCells)) (c : Int) (hc : lookP l ps c) :
    Calls Tryd.prog 55 #[.slice la l.length lc, .slice pa ps.length pc] w fun e w' => e = .returned (.tuple #[relZ, .int .i64 c]) ∧ Below w.heap.size w w' := by
  rcases hc with ⟨h1, h2⟩ | ⟨h0, ⟨h1, rfl⟩ | ⟨h1, h2, rfl⟩⟩
  · exact look_bad l la lc _ w hl c h1 h2
  · exact look_long l la lc ps.length pa pc w hl h0 h1 (rows_len hp)
  · exact look_out l la lc ps pa pc w hl hp h0 h1 h2
theorem lookP_c {l : List Ev} {ps : List Int} {c : Int} (h : lookP l ps c) : c = 1 ∨ c = 2 ∨ c = 7 := by
  rcases h with ⟨_, h | h⟩ | ⟨_, ⟨_, h⟩ | ⟨_, _, h⟩⟩ <;> omega
/-- One or two places, laid for a call. -/
theorem rows_ij (w : World) (i j : Int) : Rows (w.alloc (.cells #[.int .i64 i, .int .i64 j] 3)) 1 (some ⟨w.heap.size, 0, none⟩) 2 (([i, j]).map chCells) := by
  have hn := heap_alloc_new w (.cells #[.int .i64 i, .int .i64 j] 3)
  refine ⟨by simp, by omega, by simp, .inr ⟨_, _, rfl, by rw [World.size_alloc]; omega, fun k row hk => ?_⟩⟩
  match k with
  | 0 => simp [chCells] at hk; subst hk; refine ⟨rfl, fun q u hq => ?_⟩; match q with
    | 0 => simp at hq; subst hq; exact cell_of hn rfl
    | q + 1 => simp at hq
  | 1 => simp [chCells] at hk; subst hk; refine ⟨rfl, fun q u hq => ?_⟩; match q with
    | 0 => simp at hq; subst hq; exact cell_of hn rfl
    | q + 1 => simp at hq
  | k + 2 => simp at hk
theorem rows_one1 (w : World) (i : Int) : Rows (w.alloc (.cells #[.int .i64 i] 3)) 1 (some ⟨w.heap.size, 0, none⟩) 1 (([i]).map chCells) := by
  have hn := heap_alloc_new w (.cells #[.int .i64 i] 3)
  refine ⟨by simp, by omega, by simp, .inr ⟨_, _, rfl, by rw [World.size_alloc]; omega, fun k row hk => ?_⟩⟩
  match k with
  | 0 => simp [chCells] at hk; subst hk; refine ⟨rfl, fun q u hq => ?_⟩; match q with
    | 0 => simp at hq; subst hq; exact cell_of hn rfl
    | q + 1 => simp at hq
  | k + 1 => simp at hk
end Go.Proofs.YtkadlopcomjonaaDoor.pg
/- Sets of places: an array of truths; its places as a list. -/
namespace Go.Proofs.YtkadlopcomjonaaDoor.pg
open Go.ChangeShapes Go.WideShapes Go.ChangeAt Go.RowKit Go.Shelf
set_option linter.unusedVariables false
set_option linter.unusedSimpArgs false
set_option maxRecDepth 100000
attribute [local go_sem ↓] Go.wp_at_zero Go.wp_at_succ
theorem boolRow_size (n : Nat) (f : Nat → Bool) : (boolRow n f).size = n := by simp [boolRow]
theorem boolRow_one (n : Nat) (f : Nat → Bool) : (boolRow n f).all (·.oneCell') = true := by
  rw [Array.all_eq_true_iff_forall_mem]
  intro v hv
  simp only [boolRow, List.mem_toArray, List.mem_map] at hv
  obtain ⟨j, _, rfl⟩ := hv
  rfl
/-- The places below n. -/
def lst (f : Nat → Bool) : Nat → List Int
  | 0 => []
  | n + 1 => lst f n ++ (if f n = true then [(n : Int)] else [])
theorem lst_len (f : Nat → Bool) : ∀ n, (lst f n).length ≤ n
  | 0 => Nat.le_refl _
  | n + 1 => by
    have := lst_len f n
    rw [lst, List.length_append]
    split <;> simp <;> omega
theorem lst_mem (f : Nat → Bool) (p : Int) : ∀ n, p ∈ lst f n ↔ ∃ k : Nat, k < n ∧ f k = true ∧ p = (k : Int)
  | 0 => by simp [lst]
  | n + 1 => by
    rw [lst, List.mem_append, lst_mem f p n]
    constructor
    · rintro (⟨k, h1, h2, h3⟩ | h)
      · exact ⟨k, by omega, h2, h3⟩
      · split at h
        · rename_i c
          simp at h
          exact ⟨n, by omega, c, h⟩
        · simp at h
    · rintro ⟨k, h1, h2, h3⟩
      by_cases c : k = n
      · subst c
        right
        rw [if_pos h2]
        simp [h3]
      · exact .inl ⟨k, by omega, h2, h3⟩
theorem lst_congr {f g : Nat → Bool} : ∀ n, (∀ k, k < n → f k = g k) → lst f n = lst g n
  | 0, _ => rfl
  | n + 1, h => by rw [lst, lst, lst_congr n fun k hk => h k (by omega), h n (by omega)]
theorem lst_cut {f : Nat → Bool} {m : Nat} : ∀ n, m ≤ n → (∀ k, m ≤ k → k < n → f k = false) → lst f n = lst f m
  | 0, h, _ => by have : m = 0 := by omega
                  subst this; rfl
  | n + 1, h, hf => by
    by_cases c : m = n + 1
    · rw [c]
    · rw [lst, lst_cut n (by omega) fun k h1 h2 => hf k h1 (by omega), hf n (by omega) (by omega)]
      simp
structure LsS (w : World) (L : List Int) (va : Option Addr) (vc : Nat) (wr : World) : Prop where
  be : Below w.heap.size w wr
  ow : OwnL wr w.heap.size 3 1 va vc (L.map chCells)
theorem LsS.later {w : World} {L : List Int} {va : Option Addr} {vc : Nat} {wr w' : World} (h : LsS w L va vc wr) (hb : Below wr.heap.size wr w') : LsS w L va vc w' :=
  ⟨bthen h.be hb, own_keep h.ow fun b hb' => hb.block b (blk_lt h.ow b hb').2⟩
theorem LsS.rows {w : World} {L : List Int} {va : Option Addr} {vc : Nat} {wr : World} (h : LsS w L va vc wr) : Rows wr 1 va vc (L.map chCells) := own_rows h.ow (len1u _)
theorem LsS.grown {w : World} {L : List Int} {va va' : Option Addr} {vc vc' : Nat} {wr w' : World} {x : Int} (h : LsS w L va vc wr) (hg : Grown wr w.heap.size 3 1 va (L.map chCells) (chCells x) va' vc' w') : LsS w (L ++ [x]) va' vc' w' :=
  ⟨below_min h.be h.be.size hg.be, by rw [List.map_append]; exact hg.ow⟩
end Go.Proofs.YtkadlopcomjonaaDoor.pg
