/- What the notes of a trace tell: package linear's Noted. -/
import Derived.Test.YtklpifammbnldaaM37
import Derived.Test.YtklpifammbnldaaM30
import Derived.Test.YtklpifammbnldaaM28
namespace Go.Proofs.Ytklpifammbnldaa.pg
open Go.ChangeShapes Go.WideShapes Go.ChangeAt Go.RowKit
set_option linter.unusedVariables false
set_option linter.unusedSimpArgs false
set_option maxRecDepth 100000
attribute [local go_sem ↓] Go.wp_at_zero Go.wp_at_succ
/-- What Noted answers. -/
def NdQ (w : World) (c : Int) (r : Option (List Cl)) (e : Ending) (w' : World) : Prop :=
  (c ≠ 0 ∧ e = .returned (.tuple #[.slice none 0 0, .int .i64 c])) ∨ (c = 0 ∧ ((r = none ∧ e = .returned (.tuple #[.slice none 0 0, .int .i64 260])) ∨ ∃ h a cap, r = some h ∧ e = .returned (.tuple #[.slice a h.length cap, .int .i64 0]) ∧ Rows w' 7 a cap (h.map Cl.cells) ∧ h.length ≤ 8))
theorem zeroNt : ∀ w, (zeroValue TN).run Try.prog w = .ok (.agg (ntA none 0 0 fun _ => 0)) w := fun w => by kernel_rfl
theorem infoNt : (Try.prog.info? TN).map (·.size) = some 7 := by kernel_rfl
def fillN (k : Nat) (j : Nat) : Int := if j < k then -1 else 0
theorem ntA_zero : ntA none 0 0 (fun _ => 0) = ntA none 0 0 (fillN 0) := rfl
theorem fill_put (k : Nat) : (fun j => if j = k then (-1 : Int) else fillN k j) = fillN (k + 1) := by
  funext j
  unfold fillN
  by_cases e : j = k
  · rw [if_pos e, if_pos (by omega)]
  · rw [if_neg e]
    by_cases e2 : j < k
    · rw [if_pos e2, if_pos (by omega)]
    · rw [if_neg e2, if_neg (by omega)]
def nxtN (i : Nat) (t : List Ev) (r : Option (List Cl)) : Option (List Cl) := match r with
  | none => none
  | some h' => notedP (i + 1) h' t
theorem noted_drop2 {l : List Ev} {i : Nat} {x : Ev} (hx : l[i]? = some x) (h : List Cl) : notedP i h (l.drop i) = nxtN i (l.drop (i + 1)) (noteP i h x) := by
  rw [noted_drop hx]
  unfold nxtN
  cases noteP i h x <;> rfl
theorem right_go {x : Ev} (h : rightP x) : ∃ g : Nat, g < 6 ∧ x.go = (g : Int) := ⟨x.go.toNat, by have := h.1.1; have := h.1.2.1; omega, by have := h.1.1; omega⟩
section
variable {w : World} {l : List Ev} {la : Option Addr} {lc : Nat}
set_option maxHeartbeats 4000000 in
theorem noted_bad (hl : Rows w 26 la lc (l.map Ev.cells)) (c : Int) (hc : checkP l c) (h0 : c ≠ 0) : Calls Try.prog 22 #[.slice la l.length lc] w fun e w' => NdQ w c (notedP 0 [] l) e w' ∧ Below w.heap.size w w' := by
  have cC := check_any l la lc w hl c hc
  have hcH : Hid (c ≠ 0) := h0
  have hcb : (c != 0) = true := by rw [bne_iff_ne]; exact h0
  clear hl hc h0
  go_enter Try.func22, Try.ntmps22
  go_wp2_with (first
    | (go_at_call 37; (with_reducible refine cC.mono ?_); rintro e w1 ⟨rfl, hb⟩; (have hB : Hid (Below w.heap.size w w1) := hb); clear hb cC))
  go_ret2
  exact ⟨.inl ⟨hcH.out, rfl⟩, hB.out⟩
set_option maxHeartbeats 8000000 in
theorem noted_ok (hl : Rows w 26 la lc (l.map Ev.cells)) (hn : l.length ≤ 256) (hr : ∀ x ∈ l, rightP x) : Calls Try.prog 22 #[.slice la l.length lc] w fun e w' => NdQ w 0 (notedP 0 [] l) e w' ∧ Below w.heap.size w w' := by
  have cC := check_any l la lc w hl 0 (.inr (.inr ⟨hn, hr, rfl⟩))
  have hlH : Hid (Rows w 26 la lc (l.map Ev.cells)) := hl
  have hrH : Hid (∀ x ∈ l, rightP x) := hr
  have hnI : (l.length : Int) ≤ 256 := by omega
  have huH : Hid (Try.prog.underlying 92 = _) := Try.underlying92
  have hiH : Hid ((Try.prog.info? 92).map (·.size) = some 26) := infoE26
  clear hl hr
  go_enter Try.func22, Try.ntmps22
  go_upto_region 5 with (first
    | (go_at_call 37; (with_reducible refine cC.mono ?_); rintro e w1 ⟨rfl, hb⟩; (have hB : Hid (Below w.heap.size w w1) := hb); clear hb cC)
    | ((with_reducible refine at_allocL TN rfl ?_); refine stopL_out ?_; refine wpList_alloc_big rfl TN rfl zeroNt ?_))
  obtain ⟨B, hBe⟩ : ∃ B, w1.heap.size = B := ⟨_, rfl⟩
  have hN0 : Hid ((w1.alloc (.cells (ntA none 0 0 (fillN 0)) TN)).heap[B]? = some (.cells (ntA none 0 0 (fillN 0)) TN) ∧ Below w.heap.size w (w1.alloc (.cells (ntA none 0 0 (fillN 0)) TN)) ∧ w.heap.size ≤ B) := by
    rw [← hBe]
    exact ⟨heap_alloc_new _ _, bthen hB.out (boxed _ _), hB.out.size⟩
  change Code.wp _ _ _ _ (w1.alloc (.cells (ntA none 0 0 (fillN 0)) TN))
  rw [hBe]
  generalize w1.alloc (.cells (ntA none 0 0 (fillN 0)) TN) = W1 at *
  clear hB hBe
  go_wp2_with fail
  go_loopw [14] (fun u wr => ∃ k : Nat, k ≤ 6 ∧ u = .int .i64 (k : Int) ∧ Hid (wr.heap[B]? = some (.cells (ntA none 0 0 (fillN k)) TN) ∧ Below w.heap.size w wr ∧ w.heap.size ≤ B)) (fun u _ => 6 - (intOf u).toNat)
  case atStart => exact ⟨0, Nat.zero_le _, rfl, hN0.out⟩
  case round =>
    obtain ⟨k, hk, rfl, hst⟩ := hrel
    clear hN0
    by_cases hlt : k < 6
    · have hkI : (k : Int) < 6 := by omega
      have x1 := ix6N B k hlt
      have ck := (nt_cell hst.out.1).2 k hlt
      have fk : wr.frozen? ⟨B, 1 + k, none⟩ = false := frozen_of_row _ _ _ _ _ hst.out.1
      go_wp2_with (first
        | ((with_reducible refine at_storeL 3 _ _ rfl ?_); refine stopL_out ?_; refine wpList_puti rfl 3 _ _ rfl ⟨B, 1 + k, none⟩ rfl (-1) rfl (by kernel_rfl) _ ck fk fun W2 hW2 => ?_; (have hN2 : Hid (W2.heap[B]? = some (.cells (ntA none 0 0 (fillN (k + 1))) TN) ∧ Below w.heap.size w W2 ∧ w.heap.size ≤ B) := (by rw [hW2, ← fill_put k]; exact ⟨nt_putL hst.out.1 hlt _, hst.out.2.1.setCell (p := ⟨B, 1 + k, none⟩) hst.out.2.2 _, hst.out.2.2⟩)); clear hW2 ck fk hst x1))
      go_roundw
      case rel => exact ⟨k + 1, by omega, by go_num, hN2.out⟩
      case measure => simp [intOf]; omega
    · have hke : k = 6 := by omega
      subst hke
      have hS0 : Hid (NtS w wr B [] none 0) := ⟨by
        rw [hst.out.1]
        rw [show ([] : List Cl).length = 0 from rfl, ntA_same (l' := lasF []) fun g hg => ?_]
        show fillN 6 g = lasN [] (g : Int)
        unfold fillN
        rw [if_pos hg]; rfl, own_nil_q _ _ _ _, hst.out.2.1, hst.out.2.2, by simp [blk]⟩
      clear hst
      rw [show ((6 : Nat) : Int) = 6 from rfl]
      go_wp2_with fail
      go_loopw [23] (fun u wq => ∃ i : Nat, i ≤ l.length ∧ u = .int .i64 (i : Int) ∧ Hid (∃ (h : List Cl) (oa : Option Addr) (oc : Nat), NtS w wq B h oa oc ∧ NInv h ∧ notedP i h (l.drop i) = notedP 0 [] l)) (fun u _ => l.length - (intOf u).toNat)
      case atStart => exact ⟨0, Nat.zero_le _, rfl, [], none, 0, hS0.out, NInv.nil, rfl⟩
      case round =>
        obtain ⟨i, hi, rfl, hst⟩ := hrel
        obtain ⟨h, oa, oc, hS', hv', hd'⟩ := hst.out
        have hSH : Hid (NtS w wr B h oa oc) := hS'
        have hv : Hid (NInv h) := hv'
        have hd : Hid (notedP i h (l.drop i) = notedP 0 [] l) := hd'
        clear hst hS' hv' hd' hS0
        by_cases hlt : i < l.length
        · have hiI : (i : Int) < l.length := by omega
          obtain ⟨x, hx, hxm⟩ := get_lt l i hlt
          obtain ⟨b0, o0, hix, hbl, hrg⟩ := ev_row (hlH.out.later hSH.out.b) i x hx
          have hrH' : Hid (wr.rangeAt b0 o0 x.cells) := hrg
          have hbx : Hid ((wr.alloc (objE x)).rangeAt wr.heap.size 0 x.cells) := (boxE_new wr x).range
          obtain ⟨g, hg, hgo⟩ := right_go (hrH.out x hxm)
          have cN : Calls Try.prog 38 #[.pointer (some ⟨B, 0, none⟩), .agg x.cells.toArray, .int .i64 (i : Int)] (wr.alloc (.cells x.cells.toArray 92)) fun e w' => NotP w (wr.alloc (objE x)) B oa (noteP i h x) e w' := note_anyN hv.out (hSH.out.below (boxed wr (objE x))) x hg hgo i (by omega)
          have hstep : Hid (nxtN i (l.drop (i + 1)) (noteP i h x) = notedP 0 [] l) := by
            show _ = _
            rw [← hd.out, noted_drop2 hx]
          have hinv : Hid (∀ h', noteP i h x = some h' → NInv h') := fun h' q => note_inv hv.out (hrH.out x hxm |>.1 |> fun z => ⟨z.1, z.2.1⟩) q
          obtain ⟨r, hr⟩ : ∃ r, noteP i h x = r := ⟨_, rfl⟩
          rw [hr] at cN hstep hinv
          clear hrg hd hr hg hgo hx hxm
          cases r with
          | none =>
            have hnone : Hid (notedP 0 [] l = none) := hstep.out.symm
            go_wp2_with (first
              | (refine wpList_load_mid rfl 92 _ rfl b0 o0 rfl x.cells _ hrH'.out huH.out rfl hiH.out ?_)
              | (refine wpList_store_new rfl 92 _ _ rfl rfl _ x.cells.toArray rfl (by kernel_rfl) rfl (ev_one x) ?_)
              | (refine wpList_load_mid rfl 92 _ rfl wr.heap.size 0 rfl x.cells _ hbx.out huH.out rfl hiH.out ?_)
              | (go_at_call 38; (with_reducible refine cN.mono ?_); rintro e w2 ⟨rfl, hb⟩; (have hB2 : Hid (Below w.heap.size w w2) := hb); clear hb))
            go_ret2
            exact ⟨.inr ⟨rfl, .inl ⟨hnone.out, rfl⟩⟩, hB2.out⟩
          | some h' =>
            have hd2 : Hid (notedP (i + 1) h' (l.drop (i + 1)) = notedP 0 [] l) := hstep.out
            go_wp2_with (first
              | (refine wpList_load_mid rfl 92 _ rfl b0 o0 rfl x.cells _ hrH'.out huH.out rfl hiH.out ?_)
              | (refine wpList_store_new rfl 92 _ _ rfl rfl _ x.cells.toArray rfl (by kernel_rfl) rfl (ev_one x) ?_)
              | (refine wpList_load_mid rfl 92 _ rfl wr.heap.size 0 rfl x.cells _ hbx.out huH.out rfl hiH.out ?_)
              | (go_at_call 38; (with_reducible refine cN.mono ?_); rintro e w2 ⟨rfl, oa', oc', hS2, _⟩; (have hSH2 : Hid (NtS w w2 B h' oa' oc') := hS2); clear hS2))
            go_roundw
            case rel => exact ⟨i + 1, by omega, by go_num, h', oa', oc', hSH2.out, hinv.out h' rfl, hd2.out⟩
            case measure => simp [intOf]; omega
        · have hie : i = l.length := by omega
          have hiI : ¬ (i : Int) < l.length := by omega
          have hfin : Hid (notedP 0 [] l = some h) := by
            show _ = _
            rw [← hd.out, hie, List.drop_length]; rfl
          have c0 := (nt_cell hSH.out.s).1
          go_wp2
          go_ret2
          exact ⟨.inr ⟨rfl, .inr ⟨h, oa, oc, hfin.out, rfl, own_rows hSH.out.o (cl_len h), hv.out.n⟩⟩, hSH.out.b⟩
theorem noted_any (hl : Rows w 26 la lc (l.map Ev.cells)) (c : Int) (hc : checkP l c) : Calls Try.prog 22 #[.slice la l.length lc] w fun e w' => NdQ w c (notedP 0 [] l) e w' ∧ Below w.heap.size w w' := by
  by_cases h0 : c = 0
  · subst h0
    rcases hc with ⟨_, q⟩ | ⟨_, _, q⟩ | ⟨h1, h2, _⟩
    · omega
    · omega
    · exact noted_ok hl h1 h2
  · exact noted_bad hl c hc h0
end
end Go.Proofs.Ytklpifammbnldaa.pg
/- What the notes of a trace tell: in the document's own words. -/
namespace Go.Proofs.Ytklpifammbnldaa.pg
open Go.ChangeShapes Go.WideShapes Go.ChangeAt Go.RowKit
set_option linter.unusedVariables false
set_option linter.unusedSimpArgs false
set_option maxRecDepth 100000
attribute [local go_sem ↓] Go.wp_at_zero Go.wp_at_succ
def rowPut (row : List Value) : Nat → List Value → List Value
  | _, [] => row
  | j, c :: cs => rowPut (row.set j c) (j + 1) cs
theorem own_cellsN {lo e k g cap i : Nat} : ∀ (cs : List Value) (w : World) (L : List (List Value)) (row : List Value) (j : Nat), OwnL w lo e k (some ⟨g, 0, none⟩) cap L → (∀ r ∈ L, r.length = k) → L[i]? = some row → j + cs.length ≤ k → OwnL (w.setCells g (i * k + j) cs) lo e k (some ⟨g, 0, none⟩) cap (L.set i (rowPut row j cs))
  | [], w, L, row, j, ho, hk, hi, hj => by
    have e : L.set i row = L := List.ext_getElem? fun n => by
      rw [List.getElem?_set]
      split
      · next q => subst q; rw [if_pos (List.getElem?_eq_some_iff.mp hi).1, hi]
      · rfl
    rw [World.setCells, rowPut, e]
    exact ho
  | c :: cs, w, L, row, j, ho, hk, hi, hj => by
    rw [List.length_cons] at hj
    have h1 := own_cellN ho hk i row hi j (by omega) c
    have hil := (List.getElem?_eq_some_iff.mp hi).1
    have h2 := own_cellsN cs (w.setCell ⟨g, i * k + j, none⟩ c) (L.set i (row.set j c)) (row.set j c) (j + 1) h1 (fun r hr => by
      rcases List.mem_or_eq_of_mem_set hr with q | rfl
      · exact hk r q
      · rw [List.length_set]; exact hk row (List.mem_of_getElem? hi)) (by rw [List.getElem?_set_self hil]) (by omega)
    rw [List.set_set] at h2
    rw [World.setCells, rowPut]
    exact h2
theorem heap_setCells_other (g : Nat) : ∀ (cs : List Value) (o : Nat) (w : World) (b : Nat), b ≠ g → (w.setCells g o cs).heap[b]? = w.heap[b]?
  | [], _, _, _, _ => rfl
  | c :: cs, o, w, b, h => by rw [World.setCells, heap_setCells_other g cs (o + 1) _ b h]; exact heap_setCell_other w ⟨g, o, none⟩ b _ h
section
variable {w X : World} {h : List Cl} {oa : Option Addr} {oc : Nat}
theorem cl_rowset {lo G k : Nat} {c' : Cl} (ho : OwnL X lo 53 7 (some ⟨G, 0, none⟩) oc (h.map Cl.cells)) (hk : k < h.length) : OwnL (X.setCells G (k * 7) c'.cells) lo 53 7 (some ⟨G, 0, none⟩) oc ((h.set k c').map Cl.cells) := by
  have := own_cellsN c'.cells X _ (hf h k).cells 0 ho (cl_len h) (i := k) (by rw [List.getElem?_map, hf_at hk]; rfl) (by show 0 + 7 ≤ 7; omega)
  rw [List.map_set]
  exact this
/-- How the document's Noted stands. -/
structure NdS (w X : World) (h : List Cl) (oa : Option Addr) (oc : Nat) : Prop where
  o : OwnL X w.heap.size 53 7 oa oc (h.map Cl.cells)
  b : Below w.heap.size w X
  v : NInv h
theorem NdS.later {X' : World} (g : NdS w X h oa oc) (hb : Below X.heap.size X X') : NdS w X' h oa oc := ⟨own_keep g.o fun b hbb => hb.block b (blk_lt g.o b hbb).2, bthen g.b hb, g.v⟩
end
theorem tag_spk (x : Ev) : (spkN x = true ↔ (x.op = 65 ∧ 1 ≤ x.tag.tdiv 10 ∧ x.tag.tdiv 10 ≤ 5 ∧ 1 ≤ x.tag.tmod 10 ∧ x.tag.tmod 10 ≤ 3 ∧ ¬ (x.tag.tmod 10 = 3 ∧ x.tag.tdiv 10 ≠ 5))) ∧ (spkN x = true → tagD x.tag = x.tag.tdiv 10 ∧ tagW x.tag = x.tag.tmod 10) := by
  have e : spkN x = true ↔ (x.op = 65 ∧ 10 ≤ x.tag ∧ x.tag ≤ 53 ∧ (x.tag % 10 = 1 ∨ x.tag % 10 = 2 ∨ (x.tag % 10 = 3 ∧ x.tag / 10 = 5))) := by
    unfold spkN tagD tagW
    simp only [Bool.and_eq_true, Bool.or_eq_true, beq_iff_eq, decide_eq_true_eq]
  rw [e]
  unfold tagD tagW
  generalize x.op = op
  generalize x.tag = z
  by_cases h0 : 0 ≤ z
  · rw [Int.tdiv_eq_ediv_of_nonneg h0, Int.tmod_eq_emod_of_nonneg h0]
    exact ⟨by omega, fun _ => ⟨rfl, rfl⟩⟩
  · have h1 : z.tdiv 10 ≤ 0 := by
      rw [show z = -(-z) by omega, Int.neg_tdiv, Int.tdiv_eq_ediv_of_nonneg (by omega)]
      omega
    exact ⟨by omega, by omega⟩
theorem lastP_step {p : Nat → Bool} {n : Nat} : lastP p (n + 1) = if p n then (n : Int) else lastP p n := rfl
section
variable {w : World} {l : List Ev} {la : Option Addr} {lc : Nat}
set_option maxHeartbeats 4000000 in
theorem rnoted_bad (hl : Rows w 26 la lc (l.map Ev.cells)) (c : Int) (hc : checkP l c) (h0 : c ≠ 0) : Calls Try.prog 23 #[.slice la l.length lc] w fun e w' => NdQ w c (notedP 0 [] l) e w' ∧ Below w.heap.size w w' := by
  have cC := rcheck_any l la lc w hl c hc
  have hcH : Hid (c ≠ 0) := h0
  have hcb : (c != 0) = true := by rw [bne_iff_ne]; exact h0
  clear hl hc h0
  go_enter Try.func23, Try.ntmps23
  go_wp2_with (first
    | (go_at_call 39; (with_reducible refine cC.mono ?_); rintro e w1 ⟨rfl, hb⟩; (have hB : Hid (Below w.heap.size w w1) := hb); clear hb cC))
  go_ret2
  exact ⟨.inl ⟨hcH.out, rfl⟩, hB.out⟩
set_option maxHeartbeats 16000000 in
theorem rnoted_ok (hl : Rows w 26 la lc (l.map Ev.cells)) (hn : l.length ≤ 256) (hr : ∀ x ∈ l, rightP x) (hW : ∀ x ∈ l, I64 x.tag) : Calls Try.prog 23 #[.slice la l.length lc] w fun e w' => NdQ w 0 (notedP 0 [] l) e w' ∧ Below w.heap.size w w' := by
  have cC := rcheck_any l la lc w hl 0 (.inr (.inr ⟨hn, hr, rfl⟩))
  have hlH : Hid (Rows w 26 la lc (l.map Ev.cells)) := hl
  have hrH : Hid (∀ x ∈ l, rightP x ∧ I64 x.tag) := fun x hx => ⟨hr x hx, hW x hx⟩
  have hnI : (l.length : Int) ≤ 256 := by omega
  have huC : Hid (Try.prog.underlying 53 = _) := Try.underlying53
  obtain ⟨iC, hiC', hzC', hsC', hbC'⟩ := info_q infoClN
  have hiC : Hid (Try.prog.info? 53 = some iC) := hiC'
  have hzC : Hid _ := hzC'
  have hsC : Hid _ := hsC'
  have hbC : Hid _ := hbC'
  clear hl hr hW hiC' hzC' hsC' hbC'
  go_enter Try.func23, Try.ntmps23
  go_wp2_with (first
    | (go_at_call 39; (with_reducible refine cC.mono ?_); rintro e w1 ⟨rfl, hb⟩; (have hB : Hid (NdS w w1 [] none 0) := ⟨own_nil_q _ _ _ _, hb, NInv.nil⟩); clear hb cC))
  go_loopw [5, 6] (fun u5 u wr => ∃ i : Nat, i ≤ l.length ∧ u = .int .i64 (i : Int) ∧ ∃ (oa : Option Addr) (h : List Cl) (oc : Nat), u5 = .slice oa h.length oc ∧ Hid (NdS w wr h oa oc) ∧ Hid (notedP i h (l.drop i) = notedP 0 [] l)) (fun _ u _ => l.length - (intOf u).toNat)
  case atStart => exact ⟨0, Nat.zero_le _, rfl, none, [], 0, rfl, hB, rfl⟩
  case round =>
    obtain ⟨i, hi, rfl, oa, h, oc, rfl, hD, hd⟩ := hrel
    clear hB
    by_cases hlt : i < l.length
    · have hiI : (i : Int) < l.length := by omega
      have hi2 : (i : Int) ≤ 256 := by omega
      obtain ⟨x, hx, hxm⟩ := get_lt l i hlt
      obtain ⟨b0, o0, hix, hbl, hrg⟩ := ev_row (hlH.out.later hD.out.b) i x hx
      have hblH : Hid (b0 < wr.heap.size) := hbl
      have hrgH : Hid (wr.rangeAt b0 o0 x.cells) := hrg
      have c6 := hrg 6 _ rfl
      have c3 := hrg 3 _ rfl
      have hgo : Hid (0 ≤ x.go ∧ x.go < 6) := ⟨(hrH.out x hxm).1.1.1, (hrH.out x hxm).1.1.2.1⟩
      have hI64 := (hrH.out x hxm).2
      unfold I64 at hI64
      obtain ⟨bl1, bl2⟩ := hI64
      have h8I : (h.length : Int) ≤ 8 := by have := hD.out.v.n; omega
      clear hrg hxm hbl
      obtain ⟨hsk, htd0⟩ := tag_spk x
      have hskH : Hid (spkN x = true ↔ (x.op = 65 ∧ 1 ≤ x.tag.tdiv 10 ∧ x.tag.tdiv 10 ≤ 5 ∧ 1 ≤ x.tag.tmod 10 ∧ x.tag.tmod 10 ≤ 3 ∧ ¬ (x.tag.tmod 10 = 3 ∧ x.tag.tdiv 10 ≠ 5))) := hsk
      have htdH : Hid (spkN x = true → tagD x.tag = x.tag.tdiv 10 ∧ tagW x.tag = x.tag.tmod 10) := htd0
      clear hsk htd0
      go_upto_region 10 with fail
      generalize x.tag.tdiv 10 = d at *
      generalize x.tag.tmod 10 = ww at *
      clear c6
      by_cases hop : x.op = 65
      · have hop2 : (x.op != 65) = false := by rw [hop]; rfl
        by_cases hd1 : d < 1
        · have hsp : spkN x = false := Bool.eq_false_iff.mpr fun q => by have := hskH.out.mp q; omega
          have hskip : Hid (notedP (i + 1) h (l.drop (i + 1)) = notedP 0 [] l) := by
            show _ = _
            rw [← hd.out, noted_drop2 hx, note_skip hsp]
            rfl
          clear hx hd hsp hskH htdH
          go_wp2
          go_roundw
          case rel => exact ⟨i + 1, by omega, by go_num, oa, h, oc, rfl, hD.out, hskip.out⟩
          case measure => simp [intOf]; omega
        · by_cases hd5 : 5 < d
          · have hsp : spkN x = false := Bool.eq_false_iff.mpr fun q => by have := hskH.out.mp q; omega
            have hskip : Hid (notedP (i + 1) h (l.drop (i + 1)) = notedP 0 [] l) := by
              show _ = _
              rw [← hd.out, noted_drop2 hx, note_skip hsp]
              rfl
            clear hx hd hsp hskH htdH
            go_wp2
            go_roundw
            case rel => exact ⟨i + 1, by omega, by go_num, oa, h, oc, rfl, hD.out, hskip.out⟩
            case measure => simp [intOf]; omega
          · by_cases hw1 : ww < 1
            · have hsp : spkN x = false := Bool.eq_false_iff.mpr fun q => by have := hskH.out.mp q; omega
              have hskip : Hid (notedP (i + 1) h (l.drop (i + 1)) = notedP 0 [] l) := by
                show _ = _
                rw [← hd.out, noted_drop2 hx, note_skip hsp]
                rfl
              clear hx hd hsp hskH htdH
              go_wp2
              go_roundw
              case rel => exact ⟨i + 1, by omega, by go_num, oa, h, oc, rfl, hD.out, hskip.out⟩
              case measure => simp [intOf]; omega
            · by_cases hw3 : 3 < ww
              · have hsp : spkN x = false := Bool.eq_false_iff.mpr fun q => by have := hskH.out.mp q; omega
                have hskip : Hid (notedP (i + 1) h (l.drop (i + 1)) = notedP 0 [] l) := by
                  show _ = _
                  rw [← hd.out, noted_drop2 hx, note_skip hsp]
                  rfl
                clear hx hd hsp hskH htdH
                go_wp2
                go_roundw
                case rel => exact ⟨i + 1, by omega, by go_num, oa, h, oc, rfl, hD.out, hskip.out⟩
                case measure => simp [intOf]; omega
              · by_cases hb : ww = 3 ∧ d ≠ 5
                · have hsp : spkN x = false := Bool.eq_false_iff.mpr fun q => by have := hskH.out.mp q; exact this.2.2.2.2.2 hb
                  obtain ⟨rfl, hb5⟩ := hb
                  have hb6 : (d != 5) = true := by rw [bne_iff_ne]; exact hb5
                  have hskip : Hid (notedP (i + 1) h (l.drop (i + 1)) = notedP 0 [] l) := by
                    show _ = _
                    rw [← hd.out, noted_drop2 hx, note_skip hsp]
                    rfl
                  clear hx hd hsp hskH htdH
                  go_wp2
                  go_roundw
                  case rel => exact ⟨i + 1, by omega, by go_num, oa, h, oc, rfl, hD.out, hskip.out⟩
                  case measure => simp [intOf]; omega
                · have hsp : Hid (spkN x = true) := hskH.out.mpr ⟨hop, by omega, by omega, by omega, by omega, hb⟩
                  have htd : Hid (tagD x.tag = d ∧ tagW x.tag = ww) := htdH.out hsp.out
                  have hg3 : (ww == 3 && d != 5) = false := by
                    rcases Bool.eq_false_or_eq_true (ww == 3 && d != 5) with z | z
                    · rw [Bool.and_eq_true, beq_iff_eq, bne_iff_ne] at z
                      exact absurd z hb
                    · exact z
                  have hwr : Hid (ww = 1 ∨ ww = 2 ∨ ww = 3) := by show _ ∨ _; omega
                  clear hb hskH htdH hop
                  rcases hwr.out with rfl | rfl | rfl
                  · rename World => W1
                    go_wp2_with fail
                    go_loopw [9, 10] (fun u9 u wr => ∃ j : Nat, j ≤ h.length ∧ u = .int .i64 (j : Int) ∧ u9 = .int .i64 (lastP (fun k => (hf h k).go == x.go && (hf h k).pend) j) ∧ Hid (NdS w wr h oa oc ∧ Below W1.heap.size W1 wr)) (fun _ u _ => h.length - (intOf u).toNat)
                    case atStart => exact ⟨0, Nat.zero_le _, rfl, rfl, hD.out, Below.refl _ _⟩
                    case round =>
                      obtain ⟨j, hj, rfl, rfl, hq⟩ := hrel
                      by_cases hlj : j < h.length
                      · have hjI : (j : Int) < h.length := by omega
                        obtain ⟨b1, o1, x1, hl1, r1⟩ := cl_ix (own_rows hq.out.1.o (cl_len h)) hlj
                        have r0H : Hid (wr.rangeAt b0 o0 x.cells ∧ b0 < wr.heap.size) := ⟨range_blk hrgH.out (hq.out.2.block _ hblH.out), by have := hq.out.2.size; have := hblH.out; omega⟩
                        have hst : lastP (fun k => (hf h k).go == x.go && (hf h k).pend) (j + 1) = if ((hf h j).go == x.go && (hf h j).pend) then (j : Int) else lastP (fun k => (hf h k).go == x.go && (hf h k).pend) j := lastP_step
                        have hpe : ((hf h j).en == -1) = (hf h j).pend := rfl
                        obtain ⟨y, hy⟩ : ∃ y, hf h j = y := ⟨_, rfl⟩
                        rw [hy] at r1 hst hpe
                        have r1H : Hid (wr.rangeAt b1 o1 y.cells ∧ b1 < wr.heap.size) := ⟨r1, hl1⟩
                        have hstH : Hid _ := hst
                        clear r1 hst hy hl1
                        obtain ⟨a, ha⟩ : ∃ a, (y.go == x.go) = a := ⟨_, rfl⟩
                        rw [ha] at hstH
                        obtain ⟨p, hp⟩ : ∃ p, y.pend = p := ⟨_, rfl⟩
                        rw [hp] at hstH hpe
                        clear hp
                        go_upto_region 15 with fail
                        have hS : Hid (Below wr.heap.size wr wr.drew) := bey_drew wr
                        have hRd : Hid (∀ w', Below wr.heap.size wr w' → w'.rangeAt b1 o1 y.cells ∧ w'.rangeAt b0 o0 x.cells) := fun w' z => ⟨range_blk r1H.out.1 (z.block _ r1H.out.2), range_blk r0H.out.1 (z.block _ r0H.out.2)⟩
                        have hq9 : Hid (NdS w wr.drew h oa oc ∧ Below W1.heap.size W1 wr.drew) := ⟨hq.out.1.later hS.out, bthen hq.out.2 hS.out⟩
                        refine wp_region_noPanic ?_
                        refine wp_region_held_drew (S := fun w' => Below wr.heap.size wr w') (by kernel_rfl) hS.out (fun _ => ?_)
                        refine reg_move (i := 0) rfl (by kernel_rfl) (by kernel_rfl) (by kernel_rfl) (fun _ _ _ _ h => h) rfl (.slice oa h.length oc) (fun _ => rfl) hS.out ?_
                        simp only [Act.put, List.getElem_toArray, List.getElem_cons_succ, List.getElem_cons_zero, List.setIfInBounds_toArray, List.set_cons_zero, List.set_cons_succ]
                        refine reg_move (i := 1) rfl (by kernel_rfl) (by kernel_rfl) (by kernel_rfl) (fun _ _ _ _ h => h) rfl (.int .i64 (j : Int)) (fun _ => rfl) hS.out ?_
                        simp only [Act.put, List.getElem_toArray, List.getElem_cons_succ, List.getElem_cons_zero, List.setIfInBounds_toArray, List.set_cons_zero, List.set_cons_succ]
                        refine reg_move (i := 2) rfl (by kernel_rfl) (by kernel_rfl) (by kernel_rfl) (fun _ _ _ _ h => h) rfl (.pointer (some ⟨b1, o1, none⟩)) (fun wx => by unfold execOp; exact run_value_of (x1 wx)) hS.out ?_
                        simp only [Act.put, List.getElem_toArray, List.getElem_cons_succ, List.getElem_cons_zero, List.setIfInBounds_toArray, List.set_cons_zero, List.set_cons_succ]
                        refine reg_move (i := 3) rfl (by kernel_rfl) (by kernel_rfl) (by kernel_rfl) (fun _ _ _ _ h => h) rfl (.pointer (some ⟨b1, o1 + 0, none⟩)) (fun _ => rfl) hS.out ?_
                        simp only [Act.put, List.getElem_toArray, List.getElem_cons_succ, List.getElem_cons_zero, List.setIfInBounds_toArray, List.set_cons_zero, List.set_cons_succ]
                        refine reg_load1 (i := 4) rfl (by kernel_rfl) (by kernel_rfl) (by kernel_rfl) (fun _ _ _ _ h => h) rfl 3 _ rfl ⟨b1, o1 + 0, none⟩ rfl _ Try.underlying3 rfl (.int .i64 y.go) (fun w' z => (hRd.out w' z).1 0 _ rfl) hS.out ?_
                        simp only [Act.put, List.getElem_toArray, List.getElem_cons_succ, List.getElem_cons_zero, List.setIfInBounds_toArray, List.set_cons_zero, List.set_cons_succ]
                        refine reg_move (i := 5) rfl (by kernel_rfl) (by kernel_rfl) (by kernel_rfl) (fun _ _ _ _ h => h) rfl (.slice la l.length lc) (fun _ => rfl) hS.out ?_
                        simp only [Act.put, List.getElem_toArray, List.getElem_cons_succ, List.getElem_cons_zero, List.setIfInBounds_toArray, List.set_cons_zero, List.set_cons_succ]
                        refine reg_move (i := 6) rfl (by kernel_rfl) (by kernel_rfl) (by kernel_rfl) (fun _ _ _ _ h => h) rfl (.int .i64 (i : Int)) (fun _ => rfl) hS.out ?_
                        simp only [Act.put, List.getElem_toArray, List.getElem_cons_succ, List.getElem_cons_zero, List.setIfInBounds_toArray, List.set_cons_zero, List.set_cons_succ]
                        refine reg_move (i := 7) rfl (by kernel_rfl) (by kernel_rfl) (by kernel_rfl) (fun _ _ _ _ h => h) rfl (.pointer (some ⟨b0, o0, none⟩)) (fun wx => by unfold execOp; exact run_value_of (hix wx)) hS.out ?_
                        simp only [Act.put, List.getElem_toArray, List.getElem_cons_succ, List.getElem_cons_zero, List.setIfInBounds_toArray, List.set_cons_zero, List.set_cons_succ]
                        refine reg_move (i := 8) rfl (by kernel_rfl) (by kernel_rfl) (by kernel_rfl) (fun _ _ _ _ h => h) rfl (.pointer (some ⟨b0, o0 + 0, none⟩)) (fun _ => rfl) hS.out ?_
                        simp only [Act.put, List.getElem_toArray, List.getElem_cons_succ, List.getElem_cons_zero, List.setIfInBounds_toArray, List.set_cons_zero, List.set_cons_succ]
                        refine reg_load1 (i := 9) rfl (by kernel_rfl) (by kernel_rfl) (by kernel_rfl) (fun _ _ _ _ h => h) rfl 3 _ rfl ⟨b0, o0 + 0, none⟩ rfl _ Try.underlying3 rfl (.int .i64 x.go) (fun w' z => (hRd.out w' z).2 0 _ rfl) hS.out ?_
                        simp only [Act.put, List.getElem_toArray, List.getElem_cons_succ, List.getElem_cons_zero, List.setIfInBounds_toArray, List.set_cons_zero, List.set_cons_succ]
                        refine reg_move (i := 10) rfl (by kernel_rfl) (by kernel_rfl) (by kernel_rfl) (fun _ _ _ _ h => h) rfl (.bool (y.go == x.go)) (fun _ => rfl) hS.out ?_
                        simp only [Act.put, List.getElem_toArray, List.getElem_cons_succ, List.getElem_cons_zero, List.setIfInBounds_toArray, List.set_cons_zero, List.set_cons_succ]
                        rw [ha]
                        cases a with
                        | false =>
                          refine reg_move (i := 11) rfl (by kernel_rfl) (by kernel_rfl) (by kernel_rfl) (fun _ _ _ _ h => h) rfl (.bool false) (fun _ => rfl) hS.out ?_
                          simp only [Act.put, List.getElem_toArray, List.getElem_cons_succ, List.getElem_cons_zero, List.setIfInBounds_toArray, List.set_cons_zero, List.set_cons_succ]
                          refine reg_skipL (i := 12) rfl (by kernel_rfl) (by kernel_rfl) (by kernel_rfl) (fun _ _ _ _ h => h) rfl hS.out ?_
                          simp only [Act.put, List.getElem_toArray, List.getElem_cons_succ, List.getElem_cons_zero, List.setIfInBounds_toArray, List.set_cons_zero, List.set_cons_succ]
                          refine reg_skipL (i := 13) rfl (by kernel_rfl) (by kernel_rfl) (by kernel_rfl) (fun _ _ _ _ h => h) rfl hS.out ?_
                          simp only [Act.put, List.getElem_toArray, List.getElem_cons_succ, List.getElem_cons_zero, List.setIfInBounds_toArray, List.set_cons_zero, List.set_cons_succ]
                          refine reg_skipL (i := 14) rfl (by kernel_rfl) (by kernel_rfl) (by kernel_rfl) (fun _ _ _ _ h => h) rfl hS.out ?_
                          simp only [Act.put, List.getElem_toArray, List.getElem_cons_succ, List.getElem_cons_zero, List.setIfInBounds_toArray, List.set_cons_zero, List.set_cons_succ]
                          refine reg_skipL (i := 15) rfl (by kernel_rfl) (by kernel_rfl) (by kernel_rfl) (fun _ _ _ _ h => h) rfl hS.out ?_
                          simp only [Act.put, List.getElem_toArray, List.getElem_cons_succ, List.getElem_cons_zero, List.setIfInBounds_toArray, List.set_cons_zero, List.set_cons_succ]
                          refine reg_skipL (i := 16) rfl (by kernel_rfl) (by kernel_rfl) (by kernel_rfl) (fun _ _ _ _ h => h) rfl hS.out ?_
                          simp only [Act.put, List.getElem_toArray, List.getElem_cons_succ, List.getElem_cons_zero, List.setIfInBounds_toArray, List.set_cons_zero, List.set_cons_succ]
                          refine reg_skipL (i := 17) rfl (by kernel_rfl) (by kernel_rfl) (by kernel_rfl) (fun _ _ _ _ h => h) rfl hS.out ?_
                          simp only [Act.put, List.getElem_toArray, List.getElem_cons_succ, List.getElem_cons_zero, List.setIfInBounds_toArray, List.set_cons_zero, List.set_cons_succ]
                          refine reg_move (i := 18) rfl (by kernel_rfl) (by kernel_rfl) (by kernel_rfl) (fun _ _ _ _ h => h) rfl (.bool false) (fun _ => rfl) hS.out ?_
                          simp only [Act.put, List.getElem_toArray, List.getElem_cons_succ, List.getElem_cons_zero, List.setIfInBounds_toArray, List.set_cons_zero, List.set_cons_succ]
                          refine wpAnyH_done (by kernel_rfl) (NoPanic.normal ?_) _
                          go_wp2
                          go_roundw
                          case rel => exact ⟨j + 1, by omega, by go_num, by (rw [hstH.out]; rfl), hq9.out⟩
                          case measure => simp [intOf]; omega
                        | true =>
                          refine reg_move (i := 11) rfl (by kernel_rfl) (by kernel_rfl) (by kernel_rfl) (fun _ _ _ _ h => h) rfl (.bool true) (fun _ => rfl) hS.out ?_
                          simp only [Act.put, List.getElem_toArray, List.getElem_cons_succ, List.getElem_cons_zero, List.setIfInBounds_toArray, List.set_cons_zero, List.set_cons_succ]
                          refine reg_move (i := 12) rfl (by kernel_rfl) (by kernel_rfl) (by kernel_rfl) (fun _ _ _ _ h => h) rfl (.slice oa h.length oc) (fun _ => rfl) hS.out ?_
                          simp only [Act.put, List.getElem_toArray, List.getElem_cons_succ, List.getElem_cons_zero, List.setIfInBounds_toArray, List.set_cons_zero, List.set_cons_succ]
                          refine reg_move (i := 13) rfl (by kernel_rfl) (by kernel_rfl) (by kernel_rfl) (fun _ _ _ _ h => h) rfl (.int .i64 (j : Int)) (fun _ => rfl) hS.out ?_
                          simp only [Act.put, List.getElem_toArray, List.getElem_cons_succ, List.getElem_cons_zero, List.setIfInBounds_toArray, List.set_cons_zero, List.set_cons_succ]
                          refine reg_move (i := 14) rfl (by kernel_rfl) (by kernel_rfl) (by kernel_rfl) (fun _ _ _ _ h => h) rfl (.pointer (some ⟨b1, o1, none⟩)) (fun wx => by unfold execOp; exact run_value_of (x1 wx)) hS.out ?_
                          simp only [Act.put, List.getElem_toArray, List.getElem_cons_succ, List.getElem_cons_zero, List.setIfInBounds_toArray, List.set_cons_zero, List.set_cons_succ]
                          refine reg_move (i := 15) rfl (by kernel_rfl) (by kernel_rfl) (by kernel_rfl) (fun _ _ _ _ h => h) rfl (.pointer (some ⟨b1, o1 + 6, none⟩)) (fun _ => rfl) hS.out ?_
                          simp only [Act.put, List.getElem_toArray, List.getElem_cons_succ, List.getElem_cons_zero, List.setIfInBounds_toArray, List.set_cons_zero, List.set_cons_succ]
                          refine reg_load1 (i := 16) rfl (by kernel_rfl) (by kernel_rfl) (by kernel_rfl) (fun _ _ _ _ h => h) rfl 3 _ rfl ⟨b1, o1 + 6, none⟩ rfl _ Try.underlying3 rfl (.int .i64 y.en) (fun w' z => (hRd.out w' z).1 6 _ rfl) hS.out ?_
                          simp only [Act.put, List.getElem_toArray, List.getElem_cons_succ, List.getElem_cons_zero, List.setIfInBounds_toArray, List.set_cons_zero, List.set_cons_succ]
                          refine reg_move (i := 17) rfl (by kernel_rfl) (by kernel_rfl) (by kernel_rfl) (fun _ _ _ _ h => h) rfl (.bool (y.en == -1)) (fun _ => rfl) hS.out ?_
                          simp only [Act.put, List.getElem_toArray, List.getElem_cons_succ, List.getElem_cons_zero, List.setIfInBounds_toArray, List.set_cons_zero, List.set_cons_succ]
                          refine reg_move (i := 18) rfl (by kernel_rfl) (by kernel_rfl) (by kernel_rfl) (fun _ _ _ _ h => h) rfl (.bool (y.en == -1)) (fun _ => rfl) hS.out ?_
                          simp only [Act.put, List.getElem_toArray, List.getElem_cons_succ, List.getElem_cons_zero, List.setIfInBounds_toArray, List.set_cons_zero, List.set_cons_succ]
                          refine wpAnyH_done (by kernel_rfl) (NoPanic.normal ?_) _
                          rw [hpe]
                          cases p with
                          | false =>
                            go_wp2
                            go_roundw
                            case rel => exact ⟨j + 1, by omega, by go_num, by (rw [hstH.out]; rfl), hq9.out⟩
                            case measure => simp [intOf]; omega
                          | true =>
                            go_wp2
                            go_roundw
                            case rel => exact ⟨j + 1, by omega, by go_num, by (rw [hstH.out]; rfl), hq9.out⟩
                            case measure => simp [intOf]; omega
                      · have hje : j = h.length := by omega
                        have hjI : ¬ (j : Int) < h.length := by omega
                        have hoe : Hid (lastP (fun k => (hf h k).go == x.go && (hf h k).pend) j = opnN h x.go) := by (show _ = _; rw [hje]; rfl)
                        rw [hoe.out]
                        have hDq : Hid (NdS w wr h oa oc) := hq.out.1
                        have hrq : Hid (wr.rangeAt b0 o0 x.cells) := range_blk hrgH.out (hq.out.2.block _ hblH.out)
                        have hstep : Hid (nxtN i (l.drop (i + 1)) (noteP i h x) = notedP 0 [] l) := by (show _ = _; rw [← hd.out, noted_drop2 hx])
                        have hbq : Hid (b0 < wr.heap.size) := by
                          have := hq.out.2.size
                          have := hblH.out
                          show _ < _
                          omega
                        clear hq hoe hd hx hD hrgH hblH c3
                        have hblq : Hid (b0 < wr.heap.size) := hbq.out
                        by_cases hon : 0 ≤ opnN h x.go
                        · obtain ⟨o, ho⟩ : ∃ o, opnN h x.go = o := ⟨_, rfl⟩
                          have hon2 : Hid (0 ≤ opnN h x.go) := hon
                          rw [ho] at hon ⊢
                          clear ho
                          have hnone : Hid (notedP 0 [] l = none) := by
                            show _ = _
                            rw [← hstep.out]
                            unfold noteP
                            rw [if_neg (by rw [hsp.out]; simp), if_pos htd.out.2, if_pos (.inl hon2.out)]
                            rfl
                          go_wp2
                          go_ret2
                          exact ⟨.inr ⟨rfl, .inl ⟨hnone.out, rfl⟩⟩, hDq.out.b⟩
                        · have hno : Hid (opnN h x.go < 0) := by (show _ < _; omega)
                          obtain ⟨o, ho⟩ : ∃ o, opnN h x.go = o := ⟨_, rfl⟩
                          rw [ho] at hon ⊢
                          clear ho
                          by_cases h88 : 8 ≤ h.length
                          · have h8e : h.length = 8 := by omega
                            have h8H : Hid (8 ≤ h.length) := h88
                            rw [h8e]
                            have hnone : Hid (notedP 0 [] l = none) := by
                              show _ = _
                              rw [← hstep.out]
                              unfold noteP
                              rw [if_neg (by rw [hsp.out]; simp), if_pos htd.out.2, if_pos (.inr h8H.out)]
                              rfl
                            go_wp2
                            go_ret2
                            exact ⟨.inr ⟨rfl, .inl ⟨hnone.out, rfl⟩⟩, hDq.out.b⟩
                          · have h8 : Hid (h.length < 8) := by (show _ < _; omega)
                            have h8J : (h.length : Int) < 8 := by omega
                            have e5 := hrq.out 5 _ rfl
                            have e0 : wr.cell? ⟨b0, o0, none⟩ = some (.int .i64 x.go) := hrq.out 0 _ rfl
                            clear h88
                            go_upto_region 21 with (first
                              | ((with_reducible refine at_buildL 53 _ rfl ?_); refine stopL_out ?_; refine wpList_bldL rfl 53 _ rfl #[(0, .int .i64 x.go), (1, .int .i64 d), (5, .int .i64 (2 * (i : Int))), (6, .int .i64 (-1))] (by simp only [List.map_toArray, List.map_cons, List.map_nil]; rfl) _ (bld_cl _ _ _) ?_)
                              | ((with_reducible refine at_allocL 53 rfl ?_); refine stopL_out ?_; refine wpList_alloc_big rfl 53 rfl zeroClN ?_)
                              | ((with_reducible refine at_storeL 53 _ _ rfl ?_); refine stopL_out ?_; refine wpList_store_row rfl 53 _ _ rfl wr.heap.size #[.int .i64 x.go, .int .i64 d, .int .i64 0, .int .i64 0, .bool false, .int .i64 (2 * (i : Int)), .int .i64 (-1)] rfl rfl _ _ (heap_alloc_new _ _) infoX rfl (by simp [Value.oneCell']) ?_))
                            obtain ⟨Y, hY⟩ : ∃ Y, (wr.alloc (.cells #[.int .i64 0, .int .i64 0, .int .i64 0, .int .i64 0, .bool false, .int .i64 0, .int .i64 0] 53)).setRow wr.heap.size #[.int .i64 x.go, .int .i64 d, .int .i64 0, .int .i64 0, .bool false, .int .i64 (2 * (i : Int)), .int .i64 (-1)] = Y := ⟨_, rfl⟩
                            have hY1 : Hid (Y.heap[wr.heap.size]? = some (oCl ⟨x.go, d, 0, 0, false, 2 * (i : Int), -1⟩) ∧ NdS w Y h oa oc ∧ Y.rangeAt b0 o0 x.cells ∧ w.heap.size ≤ wr.heap.size ∧ ∀ b ∈ blk oa, b ≠ wr.heap.size) := by
                              rw [← hY]
                              exact ⟨new_row.1, hDq.out.later new_row.2, range_blk hrq.out (new_row.2.block _ hblq.out), hDq.out.b.size, fun b hb => by have := (blk_lt hDq.out.o b hb).2; omega⟩
                            rw [hY]
                            obtain ⟨C, hC⟩ : ∃ C, wr.heap.size = C := ⟨_, rfl⟩
                            rw [hC] at hY1 ⊢
                            clear hY hDq hrq hblq hC e0
                            generalize Y = Y0 at *
                            cases d2 : (d == 2) with
                            | true =>
                              have k2 : Y0.cell? ⟨C, 2, none⟩ = some (.int .i64 0) := (cl7 hY1.out.1).2.2.1
                              have e5 := hY1.out.2.2.1 5 _ rfl
                              have k1 := (cl7 hY1.out.1).2.1
                              go_upto_region 23 with (first
                                | ((with_reducible refine at_storeL 2 _ _ rfl ?_); refine stopL_out ?_; refine wpList_puti rfl 2 _ _ rfl ⟨C, 2, none⟩ rfl x.vl rfl (by kernel_rfl) _ k2 (frozen_of_row _ _ _ _ _ hY1.out.1) fun Y2 hY2 => ?_; (have hY3 : Hid (NdS w Y2 h oa oc ∧ Y2.heap[C]? = some (oCl ⟨x.go, d, x.vl, 0, false, 2 * (i : Int), -1⟩)) := (by rw [hY2]; exact ⟨⟨own_keep hY1.out.2.1.o fun b hb => heap_setCell_other _ ⟨C, 2, none⟩ b _ (hY1.out.2.2.2.2 b hb), hY1.out.2.1.b.setCell (p := ⟨C, 2, none⟩) hY1.out.2.2.2.1 _, hY1.out.2.1.v⟩, heap_setCell_same Y0 C 2 _ _ _ hY1.out.1⟩)); clear hY2 k2 k1 e5))
                              generalize Y2 = Y at *
                              have hQ0 : Hid (NdS w Y h oa oc ∧ Y.heap[C]? = some (oCl (bgC x i))) := by
                                have e : bgC x i = ⟨x.go, d, x.vl, 0, false, 2 * (i : Int), -1⟩ := by
                                  unfold bgC
                                  rw [htd.out.1, if_pos (by unfold takesB; rw [d2]; rfl)]
                                rw [e]
                                exact hY3.out
                              clear hY3 hY1
                              obtain ⟨y, hyy⟩ : ∃ y : Cl, y = bgC x i := ⟨_, rfl⟩
                              have hQ : Hid (NdS w Y h oa oc ∧ Y.heap[C]? = some (oCl y)) := by
                                rw [hyy]
                                exact hQ0.out
                              clear hQ0
                              go_wp2_with (first
                                | ((with_reducible refine at_loadL 53 _ rfl ?_); refine stopL_out ?_; refine wpList_load_mid rfl 53 _ rfl C 0 rfl [.int .i64 y.go, .int .i64 y.d, .int .i64 y.inn, .int .i64 y.out, .bool y.em, .int .i64 y.bg, .int .i64 y.en] _ (rng_blk hQ.out.2) huC.out rfl infoX ?_)
                                | (refine wpList_buildSlice rfl 22 53 1 _ rfl y.cells.toArray iC _ Try.underlying22 hiC.out hzC.out (by rw [hsC.out]; omega) (by rw [hsC.out]; omega) (by simp only [hsC.out]; kernel_rfl) ?_)
                                | (at_builtin; (refine wpList_app1 rfl (.tmp 129) (.tmp 131) 22 rfl w.heap.size 53 iC _ 7 56 Try.underlying22 hiC.out hzC.out hsC.out hbC.out rfl (by decide) oa oc (h.map Cl.cells) (by rw [List.length_map]; rfl) hQ.out.1.o y.cells rfl rfl (by simp [Cl.cells, Value.oneCell']) (by rw [List.length_map]; have := hQ.out.1.v.n; unfold maxLen; omega) (by rw [List.length_map]; have := hQ.out.1.v.n; omega) hQ.out.1.b.size ?_); intro va vc Z3 hgr; rw [List.length_map]))
                              have hF : Hid (NdS w Z3 (h ++ [y]) va vc ∧ notedP (i + 1) (h ++ [y]) (l.drop (i + 1)) = notedP 0 [] l) := by
                                refine ⟨⟨by rw [List.map_append]; exact hgr.ow, hQ.out.1.b.trans (by have := hgr.be; rwa [Nat.min_eq_left hQ.out.1.b.size] at this), ?_⟩, ?_⟩
                                · rw [hyy]; exact hQ.out.1.v.begin hno.out h8.out hgo.out
                                · rw [← hstep.out]
                                  unfold noteP
                                  rw [if_neg (by rw [hsp.out]; simp), if_pos htd.out.2, if_neg (by have := hno.out; have := h8.out; omega), hyy]
                                  rfl
                              go_roundw
                              case rel => exact ⟨i + 1, by omega, by go_num, va, h ++ [y], vc, by rw [List.length_append, List.length_singleton], hF.out.1, hF.out.2⟩
                              case measure => simp [intOf]; omega
                            | false =>
                              cases d3 : (d == 3) with
                              | true =>
                                have k2 : Y0.cell? ⟨C, 2, none⟩ = some (.int .i64 0) := (cl7 hY1.out.1).2.2.1
                                have e5 := hY1.out.2.2.1 5 _ rfl
                                have k1 := (cl7 hY1.out.1).2.1
                                go_upto_region 23 with (first
                                  | ((with_reducible refine at_storeL 2 _ _ rfl ?_); refine stopL_out ?_; refine wpList_puti rfl 2 _ _ rfl ⟨C, 2, none⟩ rfl x.vl rfl (by kernel_rfl) _ k2 (frozen_of_row _ _ _ _ _ hY1.out.1) fun Y2 hY2 => ?_; (have hY3 : Hid (NdS w Y2 h oa oc ∧ Y2.heap[C]? = some (oCl ⟨x.go, d, x.vl, 0, false, 2 * (i : Int), -1⟩)) := (by rw [hY2]; exact ⟨⟨own_keep hY1.out.2.1.o fun b hb => heap_setCell_other _ ⟨C, 2, none⟩ b _ (hY1.out.2.2.2.2 b hb), hY1.out.2.1.b.setCell (p := ⟨C, 2, none⟩) hY1.out.2.2.2.1 _, hY1.out.2.1.v⟩, heap_setCell_same Y0 C 2 _ _ _ hY1.out.1⟩)); clear hY2 k2 k1 e5))
                                generalize Y2 = Y at *
                                have hQ0 : Hid (NdS w Y h oa oc ∧ Y.heap[C]? = some (oCl (bgC x i))) := by
                                  have e : bgC x i = ⟨x.go, d, x.vl, 0, false, 2 * (i : Int), -1⟩ := by
                                    unfold bgC
                                    rw [htd.out.1, if_pos (by unfold takesB; rw [d2, d3]; rfl)]
                                  rw [e]
                                  exact hY3.out
                                clear hY3 hY1
                                obtain ⟨y, hyy⟩ : ∃ y : Cl, y = bgC x i := ⟨_, rfl⟩
                                have hQ : Hid (NdS w Y h oa oc ∧ Y.heap[C]? = some (oCl y)) := by
                                  rw [hyy]
                                  exact hQ0.out
                                clear hQ0
                                go_wp2_with (first
                                  | ((with_reducible refine at_loadL 53 _ rfl ?_); refine stopL_out ?_; refine wpList_load_mid rfl 53 _ rfl C 0 rfl [.int .i64 y.go, .int .i64 y.d, .int .i64 y.inn, .int .i64 y.out, .bool y.em, .int .i64 y.bg, .int .i64 y.en] _ (rng_blk hQ.out.2) huC.out rfl infoX ?_)
                                  | (refine wpList_buildSlice rfl 22 53 1 _ rfl y.cells.toArray iC _ Try.underlying22 hiC.out hzC.out (by rw [hsC.out]; omega) (by rw [hsC.out]; omega) (by simp only [hsC.out]; kernel_rfl) ?_)
                                  | (at_builtin; (refine wpList_app1 rfl (.tmp 129) (.tmp 131) 22 rfl w.heap.size 53 iC _ 7 56 Try.underlying22 hiC.out hzC.out hsC.out hbC.out rfl (by decide) oa oc (h.map Cl.cells) (by rw [List.length_map]; rfl) hQ.out.1.o y.cells rfl rfl (by simp [Cl.cells, Value.oneCell']) (by rw [List.length_map]; have := hQ.out.1.v.n; unfold maxLen; omega) (by rw [List.length_map]; have := hQ.out.1.v.n; omega) hQ.out.1.b.size ?_); intro va vc Z3 hgr; rw [List.length_map]))
                                have hF : Hid (NdS w Z3 (h ++ [y]) va vc ∧ notedP (i + 1) (h ++ [y]) (l.drop (i + 1)) = notedP 0 [] l) := by
                                  refine ⟨⟨by rw [List.map_append]; exact hgr.ow, hQ.out.1.b.trans (by have := hgr.be; rwa [Nat.min_eq_left hQ.out.1.b.size] at this), ?_⟩, ?_⟩
                                  · rw [hyy]; exact hQ.out.1.v.begin hno.out h8.out hgo.out
                                  · rw [← hstep.out]
                                    unfold noteP
                                    rw [if_neg (by rw [hsp.out]; simp), if_pos htd.out.2, if_neg (by have := hno.out; have := h8.out; omega), hyy]
                                    rfl
                                go_roundw
                                case rel => exact ⟨i + 1, by omega, by go_num, va, h ++ [y], vc, by rw [List.length_append, List.length_singleton], hF.out.1, hF.out.2⟩
                                case measure => simp [intOf]; omega
                              | false =>
                                cases d4 : (d == 4) with
                                | true =>
                                  have k2 : Y0.cell? ⟨C, 2, none⟩ = some (.int .i64 0) := (cl7 hY1.out.1).2.2.1
                                  have e5 := hY1.out.2.2.1 5 _ rfl
                                  have k1 := (cl7 hY1.out.1).2.1
                                  go_upto_region 23 with (first
                                    | ((with_reducible refine at_storeL 2 _ _ rfl ?_); refine stopL_out ?_; refine wpList_puti rfl 2 _ _ rfl ⟨C, 2, none⟩ rfl x.vl rfl (by kernel_rfl) _ k2 (frozen_of_row _ _ _ _ _ hY1.out.1) fun Y2 hY2 => ?_; (have hY3 : Hid (NdS w Y2 h oa oc ∧ Y2.heap[C]? = some (oCl ⟨x.go, d, x.vl, 0, false, 2 * (i : Int), -1⟩)) := (by rw [hY2]; exact ⟨⟨own_keep hY1.out.2.1.o fun b hb => heap_setCell_other _ ⟨C, 2, none⟩ b _ (hY1.out.2.2.2.2 b hb), hY1.out.2.1.b.setCell (p := ⟨C, 2, none⟩) hY1.out.2.2.2.1 _, hY1.out.2.1.v⟩, heap_setCell_same Y0 C 2 _ _ _ hY1.out.1⟩)); clear hY2 k2 k1 e5))
                                  generalize Y2 = Y at *
                                  have hQ0 : Hid (NdS w Y h oa oc ∧ Y.heap[C]? = some (oCl (bgC x i))) := by
                                    have e : bgC x i = ⟨x.go, d, x.vl, 0, false, 2 * (i : Int), -1⟩ := by
                                      unfold bgC
                                      rw [htd.out.1, if_pos (by unfold takesB; rw [d2, d3, d4]; rfl)]
                                    rw [e]
                                    exact hY3.out
                                  clear hY3 hY1
                                  obtain ⟨y, hyy⟩ : ∃ y : Cl, y = bgC x i := ⟨_, rfl⟩
                                  have hQ : Hid (NdS w Y h oa oc ∧ Y.heap[C]? = some (oCl y)) := by
                                    rw [hyy]
                                    exact hQ0.out
                                  clear hQ0
                                  go_wp2_with (first
                                    | ((with_reducible refine at_loadL 53 _ rfl ?_); refine stopL_out ?_; refine wpList_load_mid rfl 53 _ rfl C 0 rfl [.int .i64 y.go, .int .i64 y.d, .int .i64 y.inn, .int .i64 y.out, .bool y.em, .int .i64 y.bg, .int .i64 y.en] _ (rng_blk hQ.out.2) huC.out rfl infoX ?_)
                                    | (refine wpList_buildSlice rfl 22 53 1 _ rfl y.cells.toArray iC _ Try.underlying22 hiC.out hzC.out (by rw [hsC.out]; omega) (by rw [hsC.out]; omega) (by simp only [hsC.out]; kernel_rfl) ?_)
                                    | (at_builtin; (refine wpList_app1 rfl (.tmp 129) (.tmp 131) 22 rfl w.heap.size 53 iC _ 7 56 Try.underlying22 hiC.out hzC.out hsC.out hbC.out rfl (by decide) oa oc (h.map Cl.cells) (by rw [List.length_map]; rfl) hQ.out.1.o y.cells rfl rfl (by simp [Cl.cells, Value.oneCell']) (by rw [List.length_map]; have := hQ.out.1.v.n; unfold maxLen; omega) (by rw [List.length_map]; have := hQ.out.1.v.n; omega) hQ.out.1.b.size ?_); intro va vc Z3 hgr; rw [List.length_map]))
                                  have hF : Hid (NdS w Z3 (h ++ [y]) va vc ∧ notedP (i + 1) (h ++ [y]) (l.drop (i + 1)) = notedP 0 [] l) := by
                                    refine ⟨⟨by rw [List.map_append]; exact hgr.ow, hQ.out.1.b.trans (by have := hgr.be; rwa [Nat.min_eq_left hQ.out.1.b.size] at this), ?_⟩, ?_⟩
                                    · rw [hyy]; exact hQ.out.1.v.begin hno.out h8.out hgo.out
                                    · rw [← hstep.out]
                                      unfold noteP
                                      rw [if_neg (by rw [hsp.out]; simp), if_pos htd.out.2, if_neg (by have := hno.out; have := h8.out; omega), hyy]
                                      rfl
                                  go_roundw
                                  case rel => exact ⟨i + 1, by omega, by go_num, va, h ++ [y], vc, by rw [List.length_append, List.length_singleton], hF.out.1, hF.out.2⟩
                                  case measure => simp [intOf]; omega
                                | false =>
                                  have k1 := (cl7 hY1.out.1).2.1
                                  go_upto_region 23 with fail
                                  have hQ0 : Hid (NdS w Y0 h oa oc ∧ Y0.heap[C]? = some (oCl (bgC x i))) := by
                                    have e : bgC x i = ⟨x.go, d, 0, 0, false, 2 * (i : Int), -1⟩ := by
                                      unfold bgC
                                      rw [htd.out.1, if_neg (by unfold takesB; rw [d2, d3, d4]; simp)]
                                    rw [e]
                                    exact ⟨hY1.out.2.1, hY1.out.1⟩
                                  generalize Y0 = Y at *
                                  clear hY1 k1
                                  obtain ⟨y, hyy⟩ : ∃ y : Cl, y = bgC x i := ⟨_, rfl⟩
                                  have hQ : Hid (NdS w Y h oa oc ∧ Y.heap[C]? = some (oCl y)) := by
                                    rw [hyy]
                                    exact hQ0.out
                                  clear hQ0
                                  go_wp2_with (first
                                    | ((with_reducible refine at_loadL 53 _ rfl ?_); refine stopL_out ?_; refine wpList_load_mid rfl 53 _ rfl C 0 rfl [.int .i64 y.go, .int .i64 y.d, .int .i64 y.inn, .int .i64 y.out, .bool y.em, .int .i64 y.bg, .int .i64 y.en] _ (rng_blk hQ.out.2) huC.out rfl infoX ?_)
                                    | (refine wpList_buildSlice rfl 22 53 1 _ rfl y.cells.toArray iC _ Try.underlying22 hiC.out hzC.out (by rw [hsC.out]; omega) (by rw [hsC.out]; omega) (by simp only [hsC.out]; kernel_rfl) ?_)
                                    | (at_builtin; (refine wpList_app1 rfl (.tmp 129) (.tmp 131) 22 rfl w.heap.size 53 iC _ 7 56 Try.underlying22 hiC.out hzC.out hsC.out hbC.out rfl (by decide) oa oc (h.map Cl.cells) (by rw [List.length_map]; rfl) hQ.out.1.o y.cells rfl rfl (by simp [Cl.cells, Value.oneCell']) (by rw [List.length_map]; have := hQ.out.1.v.n; unfold maxLen; omega) (by rw [List.length_map]; have := hQ.out.1.v.n; omega) hQ.out.1.b.size ?_); intro va vc Z3 hgr; rw [List.length_map]))
                                  have hF : Hid (NdS w Z3 (h ++ [y]) va vc ∧ notedP (i + 1) (h ++ [y]) (l.drop (i + 1)) = notedP 0 [] l) := by
                                    refine ⟨⟨by rw [List.map_append]; exact hgr.ow, hQ.out.1.b.trans (by have := hgr.be; rwa [Nat.min_eq_left hQ.out.1.b.size] at this), ?_⟩, ?_⟩
                                    · rw [hyy]; exact hQ.out.1.v.begin hno.out h8.out hgo.out
                                    · rw [← hstep.out]
                                      unfold noteP
                                      rw [if_neg (by rw [hsp.out]; simp), if_pos htd.out.2, if_neg (by have := hno.out; have := h8.out; omega), hyy]
                                      rfl
                                  go_roundw
                                  case rel => exact ⟨i + 1, by omega, by go_num, va, h ++ [y], vc, by rw [List.length_append, List.length_singleton], hF.out.1, hF.out.2⟩
                                  case measure => simp [intOf]; omega
                  · rename World => W1
                    go_wp2_with fail
                    go_loopw [9, 10] (fun u9 u wr => ∃ j : Nat, j ≤ h.length ∧ u = .int .i64 (j : Int) ∧ u9 = .int .i64 (lastP (fun k => (hf h k).go == x.go && (hf h k).pend) j) ∧ Hid (NdS w wr h oa oc ∧ Below W1.heap.size W1 wr)) (fun _ u _ => h.length - (intOf u).toNat)
                    case atStart => exact ⟨0, Nat.zero_le _, rfl, rfl, hD.out, Below.refl _ _⟩
                    case round =>
                      obtain ⟨j, hj, rfl, rfl, hq⟩ := hrel
                      by_cases hlj : j < h.length
                      · have hjI : (j : Int) < h.length := by omega
                        obtain ⟨b1, o1, x1, hl1, r1⟩ := cl_ix (own_rows hq.out.1.o (cl_len h)) hlj
                        have r0H : Hid (wr.rangeAt b0 o0 x.cells ∧ b0 < wr.heap.size) := ⟨range_blk hrgH.out (hq.out.2.block _ hblH.out), by have := hq.out.2.size; have := hblH.out; omega⟩
                        have hst : lastP (fun k => (hf h k).go == x.go && (hf h k).pend) (j + 1) = if ((hf h j).go == x.go && (hf h j).pend) then (j : Int) else lastP (fun k => (hf h k).go == x.go && (hf h k).pend) j := lastP_step
                        have hpe : ((hf h j).en == -1) = (hf h j).pend := rfl
                        obtain ⟨y, hy⟩ : ∃ y, hf h j = y := ⟨_, rfl⟩
                        rw [hy] at r1 hst hpe
                        have r1H : Hid (wr.rangeAt b1 o1 y.cells ∧ b1 < wr.heap.size) := ⟨r1, hl1⟩
                        have hstH : Hid _ := hst
                        clear r1 hst hy hl1
                        obtain ⟨a, ha⟩ : ∃ a, (y.go == x.go) = a := ⟨_, rfl⟩
                        rw [ha] at hstH
                        obtain ⟨p, hp⟩ : ∃ p, y.pend = p := ⟨_, rfl⟩
                        rw [hp] at hstH hpe
                        clear hp
                        go_upto_region 15 with fail
                        have hS : Hid (Below wr.heap.size wr wr.drew) := bey_drew wr
                        have hRd : Hid (∀ w', Below wr.heap.size wr w' → w'.rangeAt b1 o1 y.cells ∧ w'.rangeAt b0 o0 x.cells) := fun w' z => ⟨range_blk r1H.out.1 (z.block _ r1H.out.2), range_blk r0H.out.1 (z.block _ r0H.out.2)⟩
                        have hq9 : Hid (NdS w wr.drew h oa oc ∧ Below W1.heap.size W1 wr.drew) := ⟨hq.out.1.later hS.out, bthen hq.out.2 hS.out⟩
                        refine wp_region_noPanic ?_
                        refine wp_region_held_drew (S := fun w' => Below wr.heap.size wr w') (by kernel_rfl) hS.out (fun _ => ?_)
                        refine reg_move (i := 0) rfl (by kernel_rfl) (by kernel_rfl) (by kernel_rfl) (fun _ _ _ _ h => h) rfl (.slice oa h.length oc) (fun _ => rfl) hS.out ?_
                        simp only [Act.put, List.getElem_toArray, List.getElem_cons_succ, List.getElem_cons_zero, List.setIfInBounds_toArray, List.set_cons_zero, List.set_cons_succ]
                        refine reg_move (i := 1) rfl (by kernel_rfl) (by kernel_rfl) (by kernel_rfl) (fun _ _ _ _ h => h) rfl (.int .i64 (j : Int)) (fun _ => rfl) hS.out ?_
                        simp only [Act.put, List.getElem_toArray, List.getElem_cons_succ, List.getElem_cons_zero, List.setIfInBounds_toArray, List.set_cons_zero, List.set_cons_succ]
                        refine reg_move (i := 2) rfl (by kernel_rfl) (by kernel_rfl) (by kernel_rfl) (fun _ _ _ _ h => h) rfl (.pointer (some ⟨b1, o1, none⟩)) (fun wx => by unfold execOp; exact run_value_of (x1 wx)) hS.out ?_
                        simp only [Act.put, List.getElem_toArray, List.getElem_cons_succ, List.getElem_cons_zero, List.setIfInBounds_toArray, List.set_cons_zero, List.set_cons_succ]
                        refine reg_move (i := 3) rfl (by kernel_rfl) (by kernel_rfl) (by kernel_rfl) (fun _ _ _ _ h => h) rfl (.pointer (some ⟨b1, o1 + 0, none⟩)) (fun _ => rfl) hS.out ?_
                        simp only [Act.put, List.getElem_toArray, List.getElem_cons_succ, List.getElem_cons_zero, List.setIfInBounds_toArray, List.set_cons_zero, List.set_cons_succ]
                        refine reg_load1 (i := 4) rfl (by kernel_rfl) (by kernel_rfl) (by kernel_rfl) (fun _ _ _ _ h => h) rfl 3 _ rfl ⟨b1, o1 + 0, none⟩ rfl _ Try.underlying3 rfl (.int .i64 y.go) (fun w' z => (hRd.out w' z).1 0 _ rfl) hS.out ?_
                        simp only [Act.put, List.getElem_toArray, List.getElem_cons_succ, List.getElem_cons_zero, List.setIfInBounds_toArray, List.set_cons_zero, List.set_cons_succ]
                        refine reg_move (i := 5) rfl (by kernel_rfl) (by kernel_rfl) (by kernel_rfl) (fun _ _ _ _ h => h) rfl (.slice la l.length lc) (fun _ => rfl) hS.out ?_
                        simp only [Act.put, List.getElem_toArray, List.getElem_cons_succ, List.getElem_cons_zero, List.setIfInBounds_toArray, List.set_cons_zero, List.set_cons_succ]
                        refine reg_move (i := 6) rfl (by kernel_rfl) (by kernel_rfl) (by kernel_rfl) (fun _ _ _ _ h => h) rfl (.int .i64 (i : Int)) (fun _ => rfl) hS.out ?_
                        simp only [Act.put, List.getElem_toArray, List.getElem_cons_succ, List.getElem_cons_zero, List.setIfInBounds_toArray, List.set_cons_zero, List.set_cons_succ]
                        refine reg_move (i := 7) rfl (by kernel_rfl) (by kernel_rfl) (by kernel_rfl) (fun _ _ _ _ h => h) rfl (.pointer (some ⟨b0, o0, none⟩)) (fun wx => by unfold execOp; exact run_value_of (hix wx)) hS.out ?_
                        simp only [Act.put, List.getElem_toArray, List.getElem_cons_succ, List.getElem_cons_zero, List.setIfInBounds_toArray, List.set_cons_zero, List.set_cons_succ]
                        refine reg_move (i := 8) rfl (by kernel_rfl) (by kernel_rfl) (by kernel_rfl) (fun _ _ _ _ h => h) rfl (.pointer (some ⟨b0, o0 + 0, none⟩)) (fun _ => rfl) hS.out ?_
                        simp only [Act.put, List.getElem_toArray, List.getElem_cons_succ, List.getElem_cons_zero, List.setIfInBounds_toArray, List.set_cons_zero, List.set_cons_succ]
                        refine reg_load1 (i := 9) rfl (by kernel_rfl) (by kernel_rfl) (by kernel_rfl) (fun _ _ _ _ h => h) rfl 3 _ rfl ⟨b0, o0 + 0, none⟩ rfl _ Try.underlying3 rfl (.int .i64 x.go) (fun w' z => (hRd.out w' z).2 0 _ rfl) hS.out ?_
                        simp only [Act.put, List.getElem_toArray, List.getElem_cons_succ, List.getElem_cons_zero, List.setIfInBounds_toArray, List.set_cons_zero, List.set_cons_succ]
                        refine reg_move (i := 10) rfl (by kernel_rfl) (by kernel_rfl) (by kernel_rfl) (fun _ _ _ _ h => h) rfl (.bool (y.go == x.go)) (fun _ => rfl) hS.out ?_
                        simp only [Act.put, List.getElem_toArray, List.getElem_cons_succ, List.getElem_cons_zero, List.setIfInBounds_toArray, List.set_cons_zero, List.set_cons_succ]
                        rw [ha]
                        cases a with
                        | false =>
                          refine reg_move (i := 11) rfl (by kernel_rfl) (by kernel_rfl) (by kernel_rfl) (fun _ _ _ _ h => h) rfl (.bool false) (fun _ => rfl) hS.out ?_
                          simp only [Act.put, List.getElem_toArray, List.getElem_cons_succ, List.getElem_cons_zero, List.setIfInBounds_toArray, List.set_cons_zero, List.set_cons_succ]
                          refine reg_skipL (i := 12) rfl (by kernel_rfl) (by kernel_rfl) (by kernel_rfl) (fun _ _ _ _ h => h) rfl hS.out ?_
                          simp only [Act.put, List.getElem_toArray, List.getElem_cons_succ, List.getElem_cons_zero, List.setIfInBounds_toArray, List.set_cons_zero, List.set_cons_succ]
                          refine reg_skipL (i := 13) rfl (by kernel_rfl) (by kernel_rfl) (by kernel_rfl) (fun _ _ _ _ h => h) rfl hS.out ?_
                          simp only [Act.put, List.getElem_toArray, List.getElem_cons_succ, List.getElem_cons_zero, List.setIfInBounds_toArray, List.set_cons_zero, List.set_cons_succ]
                          refine reg_skipL (i := 14) rfl (by kernel_rfl) (by kernel_rfl) (by kernel_rfl) (fun _ _ _ _ h => h) rfl hS.out ?_
                          simp only [Act.put, List.getElem_toArray, List.getElem_cons_succ, List.getElem_cons_zero, List.setIfInBounds_toArray, List.set_cons_zero, List.set_cons_succ]
                          refine reg_skipL (i := 15) rfl (by kernel_rfl) (by kernel_rfl) (by kernel_rfl) (fun _ _ _ _ h => h) rfl hS.out ?_
                          simp only [Act.put, List.getElem_toArray, List.getElem_cons_succ, List.getElem_cons_zero, List.setIfInBounds_toArray, List.set_cons_zero, List.set_cons_succ]
                          refine reg_skipL (i := 16) rfl (by kernel_rfl) (by kernel_rfl) (by kernel_rfl) (fun _ _ _ _ h => h) rfl hS.out ?_
                          simp only [Act.put, List.getElem_toArray, List.getElem_cons_succ, List.getElem_cons_zero, List.setIfInBounds_toArray, List.set_cons_zero, List.set_cons_succ]
                          refine reg_skipL (i := 17) rfl (by kernel_rfl) (by kernel_rfl) (by kernel_rfl) (fun _ _ _ _ h => h) rfl hS.out ?_
                          simp only [Act.put, List.getElem_toArray, List.getElem_cons_succ, List.getElem_cons_zero, List.setIfInBounds_toArray, List.set_cons_zero, List.set_cons_succ]
                          refine reg_move (i := 18) rfl (by kernel_rfl) (by kernel_rfl) (by kernel_rfl) (fun _ _ _ _ h => h) rfl (.bool false) (fun _ => rfl) hS.out ?_
                          simp only [Act.put, List.getElem_toArray, List.getElem_cons_succ, List.getElem_cons_zero, List.setIfInBounds_toArray, List.set_cons_zero, List.set_cons_succ]
                          refine wpAnyH_done (by kernel_rfl) (NoPanic.normal ?_) _
                          go_wp2
                          go_roundw
                          case rel => exact ⟨j + 1, by omega, by go_num, by (rw [hstH.out]; rfl), hq9.out⟩
                          case measure => simp [intOf]; omega
                        | true =>
                          refine reg_move (i := 11) rfl (by kernel_rfl) (by kernel_rfl) (by kernel_rfl) (fun _ _ _ _ h => h) rfl (.bool true) (fun _ => rfl) hS.out ?_
                          simp only [Act.put, List.getElem_toArray, List.getElem_cons_succ, List.getElem_cons_zero, List.setIfInBounds_toArray, List.set_cons_zero, List.set_cons_succ]
                          refine reg_move (i := 12) rfl (by kernel_rfl) (by kernel_rfl) (by kernel_rfl) (fun _ _ _ _ h => h) rfl (.slice oa h.length oc) (fun _ => rfl) hS.out ?_
                          simp only [Act.put, List.getElem_toArray, List.getElem_cons_succ, List.getElem_cons_zero, List.setIfInBounds_toArray, List.set_cons_zero, List.set_cons_succ]
                          refine reg_move (i := 13) rfl (by kernel_rfl) (by kernel_rfl) (by kernel_rfl) (fun _ _ _ _ h => h) rfl (.int .i64 (j : Int)) (fun _ => rfl) hS.out ?_
                          simp only [Act.put, List.getElem_toArray, List.getElem_cons_succ, List.getElem_cons_zero, List.setIfInBounds_toArray, List.set_cons_zero, List.set_cons_succ]
                          refine reg_move (i := 14) rfl (by kernel_rfl) (by kernel_rfl) (by kernel_rfl) (fun _ _ _ _ h => h) rfl (.pointer (some ⟨b1, o1, none⟩)) (fun wx => by unfold execOp; exact run_value_of (x1 wx)) hS.out ?_
                          simp only [Act.put, List.getElem_toArray, List.getElem_cons_succ, List.getElem_cons_zero, List.setIfInBounds_toArray, List.set_cons_zero, List.set_cons_succ]
                          refine reg_move (i := 15) rfl (by kernel_rfl) (by kernel_rfl) (by kernel_rfl) (fun _ _ _ _ h => h) rfl (.pointer (some ⟨b1, o1 + 6, none⟩)) (fun _ => rfl) hS.out ?_
                          simp only [Act.put, List.getElem_toArray, List.getElem_cons_succ, List.getElem_cons_zero, List.setIfInBounds_toArray, List.set_cons_zero, List.set_cons_succ]
                          refine reg_load1 (i := 16) rfl (by kernel_rfl) (by kernel_rfl) (by kernel_rfl) (fun _ _ _ _ h => h) rfl 3 _ rfl ⟨b1, o1 + 6, none⟩ rfl _ Try.underlying3 rfl (.int .i64 y.en) (fun w' z => (hRd.out w' z).1 6 _ rfl) hS.out ?_
                          simp only [Act.put, List.getElem_toArray, List.getElem_cons_succ, List.getElem_cons_zero, List.setIfInBounds_toArray, List.set_cons_zero, List.set_cons_succ]
                          refine reg_move (i := 17) rfl (by kernel_rfl) (by kernel_rfl) (by kernel_rfl) (fun _ _ _ _ h => h) rfl (.bool (y.en == -1)) (fun _ => rfl) hS.out ?_
                          simp only [Act.put, List.getElem_toArray, List.getElem_cons_succ, List.getElem_cons_zero, List.setIfInBounds_toArray, List.set_cons_zero, List.set_cons_succ]
                          refine reg_move (i := 18) rfl (by kernel_rfl) (by kernel_rfl) (by kernel_rfl) (fun _ _ _ _ h => h) rfl (.bool (y.en == -1)) (fun _ => rfl) hS.out ?_
                          simp only [Act.put, List.getElem_toArray, List.getElem_cons_succ, List.getElem_cons_zero, List.setIfInBounds_toArray, List.set_cons_zero, List.set_cons_succ]
                          refine wpAnyH_done (by kernel_rfl) (NoPanic.normal ?_) _
                          rw [hpe]
                          cases p with
                          | false =>
                            go_wp2
                            go_roundw
                            case rel => exact ⟨j + 1, by omega, by go_num, by (rw [hstH.out]; rfl), hq9.out⟩
                            case measure => simp [intOf]; omega
                          | true =>
                            go_wp2
                            go_roundw
                            case rel => exact ⟨j + 1, by omega, by go_num, by (rw [hstH.out]; rfl), hq9.out⟩
                            case measure => simp [intOf]; omega
                      · have hje : j = h.length := by omega
                        have hjI : ¬ (j : Int) < h.length := by omega
                        have hoe : Hid (lastP (fun k => (hf h k).go == x.go && (hf h k).pend) j = opnN h x.go) := by (show _ = _; rw [hje]; rfl)
                        rw [hoe.out]
                        have hDq : Hid (NdS w wr h oa oc) := hq.out.1
                        have hrq : Hid (wr.rangeAt b0 o0 x.cells) := range_blk hrgH.out (hq.out.2.block _ hblH.out)
                        have hstep : Hid (nxtN i (l.drop (i + 1)) (noteP i h x) = notedP 0 [] l) := by (show _ = _; rw [← hd.out, noted_drop2 hx])
                        have hbq : Hid (b0 < wr.heap.size) := by
                          have := hq.out.2.size
                          have := hblH.out
                          show _ < _
                          omega
                        clear hq hoe hd hx hD hrgH hblH c3
                        have hblq : Hid (b0 < wr.heap.size) := hbq.out
                        rcases opn_spec (h := h) x.go with ⟨ho, _⟩ | ⟨k, hk, ho, _, _⟩
                        · have hon : Hid (opnN h x.go < 0) := by (show _ < _; omega)
                          rw [ho]
                          have hnone : Hid (notedP 0 [] l = none) := by
                            show _ = _
                            rw [← hstep.out]
                            unfold noteP
                            rw [if_neg (by rw [hsp.out]; simp), if_neg (by rw [htd.out.2]; decide), if_pos (.inl hon.out)]
                            rfl
                          go_wp2
                          go_ret2
                          exact ⟨.inr ⟨rfl, .inl ⟨hnone.out, rfl⟩⟩, hDq.out.b⟩
                        · have hkn : Hid (opnN h x.go = (k : Int)) := ho
                          rw [ho]
                          clear ho
                          obtain ⟨G, hG, hGlo, hGlt, rG, xG⟩ := cl_own hDq.out.o hk
                          have hkH : Hid (k < h.length) := hk
                          obtain ⟨c, hc⟩ : ∃ c, hf h k = c := ⟨_, rfl⟩
                          have hcH : Hid (hf h k = c) := hc
                          rw [hc] at rG
                          have g1 := rG 1 _ rfl
                          have hkI : ¬ (k : Int) < 0 := by omega
                          by_cases hcd : c.d = d
                          · have hcdb : (c.d != d) = false := by rw [hcd]; simp
                            have hcdH : Hid (c.d = d) := hcd
                            have rGH : Hid (wr.rangeAt G (k * 7) [.int .i64 c.go, .int .i64 c.d, .int .i64 c.inn, .int .i64 c.out, .bool c.em, .int .i64 c.bg, .int .i64 c.en] ∧ w.heap.size ≤ G ∧ G < wr.heap.size) := ⟨rG, hGlo, hGlt⟩
                            have e5 := hrq.out 5 _ rfl
                            clear rG hGlo hGlt hc hk hcd
                            go_upto_region 27 with (first
                              | ((with_reducible refine at_loadL 53 _ rfl ?_); refine stopL_out ?_; refine wpList_load_mid rfl 53 _ rfl G (k * 7) rfl [.int .i64 c.go, .int .i64 c.d, .int .i64 c.inn, .int .i64 c.out, .bool c.em, .int .i64 c.bg, .int .i64 c.en] _ rGH.out.1 huC.out rfl infoX ?_)
                              | ((with_reducible refine at_allocL 53 rfl ?_); refine stopL_out ?_; refine wpList_alloc_big rfl 53 rfl zeroClN ?_)
                              | ((with_reducible refine at_storeL 53 _ _ rfl ?_); refine stopL_out ?_; refine wpList_store_row rfl 53 _ _ rfl wr.heap.size #[.int .i64 c.go, .int .i64 c.d, .int .i64 c.inn, .int .i64 c.out, .bool c.em, .int .i64 c.bg, .int .i64 c.en] rfl rfl _ _ (heap_alloc_new _ _) infoX rfl (by simp [Value.oneCell']) ?_))
                            obtain ⟨Y, hY⟩ : ∃ Y, (wr.alloc (.cells #[.int .i64 0, .int .i64 0, .int .i64 0, .int .i64 0, .bool false, .int .i64 0, .int .i64 0] 53)).setRow wr.heap.size #[.int .i64 c.go, .int .i64 c.d, .int .i64 c.inn, .int .i64 c.out, .bool c.em, .int .i64 c.bg, .int .i64 c.en] = Y := ⟨_, rfl⟩
                            have hY1 : Hid (Y.heap[wr.heap.size]? = some (oCl c) ∧ NdS w Y h oa oc ∧ Y.rangeAt b0 o0 x.cells ∧ w.heap.size ≤ wr.heap.size ∧ ∀ b ∈ blk oa, b ≠ wr.heap.size) := by
                              rw [← hY]
                              exact ⟨new_row.1, hDq.out.later new_row.2, range_blk hrq.out (new_row.2.block _ hblq.out), hDq.out.b.size, fun b hb => by have := (blk_lt hDq.out.o b hb).2; omega⟩
                            rw [hY]
                            obtain ⟨C, hC⟩ : ∃ C, wr.heap.size = C := ⟨_, rfl⟩
                            rw [hC] at hY1 ⊢
                            have hbc : Hid (b0 ≠ C) := by have := hblq.out; show _ ≠ _; omega
                            clear hY hDq hrq hblq hC rGH e5 g1
                            have hnx : ∀ (Y Y' : World) (y : Cl) (p : Nat) (v : Value), Y' = Y.setCell ⟨C, p, none⟩ v → (NdS w Y h oa oc ∧ Y.rangeAt b0 o0 x.cells ∧ b0 ≠ C ∧ w.heap.size ≤ C ∧ ∀ b ∈ blk oa, b ≠ C) → (NdS w Y' h oa oc ∧ Y'.rangeAt b0 o0 x.cells ∧ b0 ≠ C ∧ w.heap.size ≤ C ∧ ∀ b ∈ blk oa, b ≠ C) := fun Y Y' y p v e ⟨q1, q2, q3, q4, q5⟩ => by
                              rw [e]
                              exact ⟨⟨own_keep q1.o fun b hb => heap_setCell_other _ ⟨C, p, none⟩ b _ (q5 b hb), q1.b.setCell (p := ⟨C, p, none⟩) q4 _, q1.v⟩, range_blk q2 (heap_setCell_other _ ⟨C, p, none⟩ b0 _ q3), q3, q4, q5⟩
                            cases t1 : (c.d == 1) with
                            | true =>
                              have hZ1 : Hid (Y.heap[C]? = some (oCl c) ∧ NdS w Y h oa oc ∧ Y.rangeAt b0 o0 x.cells ∧ b0 ≠ C ∧ w.heap.size ≤ C ∧ ∀ b ∈ blk oa, b ≠ C) := ⟨hY1.out.1, hY1.out.2.1, hY1.out.2.2.1, hbc.out, hY1.out.2.2.2.1, hY1.out.2.2.2.2⟩
                              have k6 := (cl7 hZ1.out.1).2.2.2.2.2.2
                              clear hY1
                              go_upto_region 29 with (first
                                | ((with_reducible refine at_storeL 3 _ _ rfl ?_); refine stopL_out ?_; refine wpList_puti rfl 3 _ _ rfl ⟨C, 6, none⟩ rfl (2 * (i : Int)) rfl (by kernel_rfl) _ k6 (frozen_of_row _ _ _ _ _ hZ1.out.1) fun Y2 hY2 => ?_; (have hZ2 : Hid (Y2.heap[C]? = some (oCl ⟨c.go, c.d, c.inn, c.out, c.em, c.bg, 2 * (i : Int)⟩) ∧ NdS w Y2 h oa oc ∧ Y2.rangeAt b0 o0 x.cells ∧ b0 ≠ C ∧ w.heap.size ≤ C ∧ ∀ b ∈ blk oa, b ≠ C) := ⟨(by rw [hY2]; exact heap_setCell_same Y C 6 _ _ _ hZ1.out.1), hnx Y Y2 c 6 _ hY2 hZ1.out.2⟩); (have k4 := (cl7 hZ2.out.1).2.2.2.2.1); clear hY2 k6)
                                | ((with_reducible refine at_storeL 4 _ _ rfl ?_); refine stopL_out ?_; refine wpList_putb rfl 4 _ _ rfl ⟨C, 4, none⟩ rfl false rfl (by kernel_rfl) _ k4 (frozen_of_row _ _ _ _ _ hZ2.out.1) fun Y3 hY3 => ?_; (have hZ3 : Hid (Y3.heap[C]? = some (oCl ⟨c.go, c.d, c.inn, c.out, false, c.bg, 2 * (i : Int)⟩) ∧ NdS w Y3 h oa oc ∧ Y3.rangeAt b0 o0 x.cells ∧ b0 ≠ C ∧ w.heap.size ≤ C ∧ ∀ b ∈ blk oa, b ≠ C) := ⟨(by rw [hY3]; exact heap_setCell_same Y2 C 4 _ _ _ hZ2.out.1), hnx Y2 Y3 c 4 _ hY3 hZ2.out.2⟩); clear hY3 k4 hZ2))
                              have k1 := (cl7 hZ3.out.1).2.1
                              have k3 := (cl7 hZ3.out.1).2.2.2.1
                              have e5 := hZ3.out.2.2.1 5 _ rfl
                              clear hZ1
                              go_upto_region 31 with (first
                                | ((with_reducible refine at_storeL 2 _ _ rfl ?_); refine stopL_out ?_; refine wpList_puti rfl 2 _ _ rfl ⟨C, 3, none⟩ rfl x.vl rfl (by kernel_rfl) _ k3 (frozen_of_row _ _ _ _ _ hZ3.out.1) fun Y4 hY4 => ?_; (have hZ4 : Hid (Y4.heap[C]? = some (oCl ⟨c.go, c.d, c.inn, x.vl, false, c.bg, 2 * (i : Int)⟩) ∧ NdS w Y4 h oa oc ∧ Y4.rangeAt b0 o0 x.cells ∧ b0 ≠ C ∧ w.heap.size ≤ C ∧ ∀ b ∈ blk oa, b ≠ C) := ⟨(by rw [hY4]; exact heap_setCell_same Y3 C 3 _ _ _ hZ3.out.1), hnx Y3 Y4 c 3 _ hY4 hZ3.out.2⟩); clear hY4 k3 k1 e5 hZ3))
                              obtain ⟨G', hG', hGlo, hGlt, rG, xG'⟩ := cl_own hZ4.out.2.1.o hkH.out
                              have e : G' = G := by
                                rw [hG] at hG'
                                simp only [Option.some.injEq, Addr.mk.injEq, and_true] at hG'
                                exact hG'.symm
                              subst e
                              have hth : Hid (Y4.there G' (k * 7) 7 ∧ G' ≠ C) := ⟨fun j hj => by
                                subst hG
                                have hkm : (h.map Cl.cells)[k]? = some (hf h k).cells := by rw [List.getElem?_map, hf_at hkH.out]; rfl
                                obtain ⟨v, hv⟩ : ∃ v, (hf h k).cells[j]? = some v := ⟨_, List.getElem?_eq_getElem (show j < 7 from hj)⟩
                                have := own_cellAt hZ4.out.2.1.o (cl_len h) k _ hkm j v hv
                                exact ⟨by rw [this.1]; rfl, this.2⟩, hZ4.out.2.2.2.2.2 G' (by rw [hG]; simp [blk])⟩
                              clear rG xG' hG' hGlo hGlt
                              go_wp2_with (first
                                | ((with_reducible refine at_loadL 53 _ rfl ?_); refine stopL_out ?_; refine wpList_load_mid rfl 53 _ rfl C 0 rfl [.int .i64 c.go, .int .i64 c.d, .int .i64 c.inn, .int .i64 x.vl, .bool false, .int .i64 c.bg, .int .i64 (2 * (i : Int))] _ (rng_blk hZ4.out.1) huC.out rfl infoX ?_)
                                | ((with_reducible refine at_storeL 53 _ _ rfl ?_); refine stopL_out ?_; refine wpList_store_mid rfl 53 _ _ rfl G' (k * 7) #[.int .i64 c.go, .int .i64 c.d, .int .i64 c.inn, .int .i64 x.vl, .bool false, .int .i64 c.bg, .int .i64 (2 * (i : Int))] rfl rfl hth.out.1 infoX (by simp [Value.oneCell']) ?_))
                              have hF : Hid (NdS w (Y4.setCells G' (k * 7) [.int .i64 c.go, .int .i64 c.d, .int .i64 c.inn, .int .i64 x.vl, .bool false, .int .i64 c.bg, .int .i64 (2 * (i : Int))]) (h.set k (enC c x i)) oa oc ∧ notedP (i + 1) (h.set k (enC c x i)) (l.drop (i + 1)) = notedP 0 [] l) := by
                                have he : enC c x i = ⟨c.go, c.d, c.inn, x.vl, false, c.bg, 2 * (i : Int)⟩ := by
                                  unfold enC
                                  rw [htd.out.2]
                                  rw [show tellsB c.d = true by (unfold tellsB; rw [t1]; rfl)]; rfl
                                refine ⟨⟨?_, ?_, ?_⟩, ?_⟩
                                · rw [he]
                                  subst hG
                                  exact cl_rowset (c' := ⟨c.go, c.d, c.inn, x.vl, false, c.bg, 2 * (i : Int)⟩) hZ4.out.2.1.o hkH.out
                                · exact below_setCells (by have := (blk_lt hZ4.out.2.1.o G' (by rw [hG]; simp [blk])).1; exact this) _ _ _ _ hZ4.out.2.1.b
                                · rw [← hcH.out]; exact hZ4.out.2.1.v.endd hkH.out
                                · rw [← hstep.out]
                                  unfold noteP
                                  rw [if_neg (by rw [hsp.out]; simp), if_neg (by rw [htd.out.2]; decide), hkn.out, Int.toNat_natCast, hcH.out, if_neg (fun z => z.elim (fun z => hkI z) fun z => z (by rw [hcdH.out, htd.out.1]))]
                                  rfl
                              generalize World.setCells _ _ _ _ = Z9 at *
                              go_roundw
                              case rel => exact ⟨i + 1, by omega, by go_num, oa, h.set k (enC c x i), oc, by (rw [List.length_set]; first | rfl | rw [hG]), hF.out.1, hF.out.2⟩
                              case measure => simp [intOf]; omega
                            | false =>
                              cases t5 : (c.d == 5) with
                              | true =>
                                have hZ1 : Hid (Y.heap[C]? = some (oCl c) ∧ NdS w Y h oa oc ∧ Y.rangeAt b0 o0 x.cells ∧ b0 ≠ C ∧ w.heap.size ≤ C ∧ ∀ b ∈ blk oa, b ≠ C) := ⟨hY1.out.1, hY1.out.2.1, hY1.out.2.2.1, hbc.out, hY1.out.2.2.2.1, hY1.out.2.2.2.2⟩
                                have k6 := (cl7 hZ1.out.1).2.2.2.2.2.2
                                clear hY1
                                go_upto_region 29 with (first
                                  | ((with_reducible refine at_storeL 3 _ _ rfl ?_); refine stopL_out ?_; refine wpList_puti rfl 3 _ _ rfl ⟨C, 6, none⟩ rfl (2 * (i : Int)) rfl (by kernel_rfl) _ k6 (frozen_of_row _ _ _ _ _ hZ1.out.1) fun Y2 hY2 => ?_; (have hZ2 : Hid (Y2.heap[C]? = some (oCl ⟨c.go, c.d, c.inn, c.out, c.em, c.bg, 2 * (i : Int)⟩) ∧ NdS w Y2 h oa oc ∧ Y2.rangeAt b0 o0 x.cells ∧ b0 ≠ C ∧ w.heap.size ≤ C ∧ ∀ b ∈ blk oa, b ≠ C) := ⟨(by rw [hY2]; exact heap_setCell_same Y C 6 _ _ _ hZ1.out.1), hnx Y Y2 c 6 _ hY2 hZ1.out.2⟩); (have k4 := (cl7 hZ2.out.1).2.2.2.2.1); clear hY2 k6)
                                  | ((with_reducible refine at_storeL 4 _ _ rfl ?_); refine stopL_out ?_; refine wpList_putb rfl 4 _ _ rfl ⟨C, 4, none⟩ rfl false rfl (by kernel_rfl) _ k4 (frozen_of_row _ _ _ _ _ hZ2.out.1) fun Y3 hY3 => ?_; (have hZ3 : Hid (Y3.heap[C]? = some (oCl ⟨c.go, c.d, c.inn, c.out, false, c.bg, 2 * (i : Int)⟩) ∧ NdS w Y3 h oa oc ∧ Y3.rangeAt b0 o0 x.cells ∧ b0 ≠ C ∧ w.heap.size ≤ C ∧ ∀ b ∈ blk oa, b ≠ C) := ⟨(by rw [hY3]; exact heap_setCell_same Y2 C 4 _ _ _ hZ2.out.1), hnx Y2 Y3 c 4 _ hY3 hZ2.out.2⟩); clear hY3 k4 hZ2))
                                have k1 := (cl7 hZ3.out.1).2.1
                                have k3 := (cl7 hZ3.out.1).2.2.2.1
                                have e5 := hZ3.out.2.2.1 5 _ rfl
                                clear hZ1
                                go_upto_region 31 with (first
                                  | ((with_reducible refine at_storeL 2 _ _ rfl ?_); refine stopL_out ?_; refine wpList_puti rfl 2 _ _ rfl ⟨C, 3, none⟩ rfl x.vl rfl (by kernel_rfl) _ k3 (frozen_of_row _ _ _ _ _ hZ3.out.1) fun Y4 hY4 => ?_; (have hZ4 : Hid (Y4.heap[C]? = some (oCl ⟨c.go, c.d, c.inn, x.vl, false, c.bg, 2 * (i : Int)⟩) ∧ NdS w Y4 h oa oc ∧ Y4.rangeAt b0 o0 x.cells ∧ b0 ≠ C ∧ w.heap.size ≤ C ∧ ∀ b ∈ blk oa, b ≠ C) := ⟨(by rw [hY4]; exact heap_setCell_same Y3 C 3 _ _ _ hZ3.out.1), hnx Y3 Y4 c 3 _ hY4 hZ3.out.2⟩); clear hY4 k3 k1 e5 hZ3))
                                obtain ⟨G', hG', hGlo, hGlt, rG, xG'⟩ := cl_own hZ4.out.2.1.o hkH.out
                                have e : G' = G := by
                                  rw [hG] at hG'
                                  simp only [Option.some.injEq, Addr.mk.injEq, and_true] at hG'
                                  exact hG'.symm
                                subst e
                                have hth : Hid (Y4.there G' (k * 7) 7 ∧ G' ≠ C) := ⟨fun j hj => by
                                  subst hG
                                  have hkm : (h.map Cl.cells)[k]? = some (hf h k).cells := by rw [List.getElem?_map, hf_at hkH.out]; rfl
                                  obtain ⟨v, hv⟩ : ∃ v, (hf h k).cells[j]? = some v := ⟨_, List.getElem?_eq_getElem (show j < 7 from hj)⟩
                                  have := own_cellAt hZ4.out.2.1.o (cl_len h) k _ hkm j v hv
                                  exact ⟨by rw [this.1]; rfl, this.2⟩, hZ4.out.2.2.2.2.2 G' (by rw [hG]; simp [blk])⟩
                                clear rG xG' hG' hGlo hGlt
                                go_wp2_with (first
                                  | ((with_reducible refine at_loadL 53 _ rfl ?_); refine stopL_out ?_; refine wpList_load_mid rfl 53 _ rfl C 0 rfl [.int .i64 c.go, .int .i64 c.d, .int .i64 c.inn, .int .i64 x.vl, .bool false, .int .i64 c.bg, .int .i64 (2 * (i : Int))] _ (rng_blk hZ4.out.1) huC.out rfl infoX ?_)
                                  | ((with_reducible refine at_storeL 53 _ _ rfl ?_); refine stopL_out ?_; refine wpList_store_mid rfl 53 _ _ rfl G' (k * 7) #[.int .i64 c.go, .int .i64 c.d, .int .i64 c.inn, .int .i64 x.vl, .bool false, .int .i64 c.bg, .int .i64 (2 * (i : Int))] rfl rfl hth.out.1 infoX (by simp [Value.oneCell']) ?_))
                                have hF : Hid (NdS w (Y4.setCells G' (k * 7) [.int .i64 c.go, .int .i64 c.d, .int .i64 c.inn, .int .i64 x.vl, .bool false, .int .i64 c.bg, .int .i64 (2 * (i : Int))]) (h.set k (enC c x i)) oa oc ∧ notedP (i + 1) (h.set k (enC c x i)) (l.drop (i + 1)) = notedP 0 [] l) := by
                                  have he : enC c x i = ⟨c.go, c.d, c.inn, x.vl, false, c.bg, 2 * (i : Int)⟩ := by
                                    unfold enC
                                    rw [htd.out.2]
                                    rw [show tellsB c.d = true by (unfold tellsB; rw [t1, t5]; rfl)]; rfl
                                  refine ⟨⟨?_, ?_, ?_⟩, ?_⟩
                                  · rw [he]
                                    subst hG
                                    exact cl_rowset (c' := ⟨c.go, c.d, c.inn, x.vl, false, c.bg, 2 * (i : Int)⟩) hZ4.out.2.1.o hkH.out
                                  · exact below_setCells (by have := (blk_lt hZ4.out.2.1.o G' (by rw [hG]; simp [blk])).1; exact this) _ _ _ _ hZ4.out.2.1.b
                                  · rw [← hcH.out]; exact hZ4.out.2.1.v.endd hkH.out
                                  · rw [← hstep.out]
                                    unfold noteP
                                    rw [if_neg (by rw [hsp.out]; simp), if_neg (by rw [htd.out.2]; decide), hkn.out, Int.toNat_natCast, hcH.out, if_neg (fun z => z.elim (fun z => hkI z) fun z => z (by rw [hcdH.out, htd.out.1]))]
                                    rfl
                                generalize World.setCells _ _ _ _ = Z9 at *
                                go_roundw
                                case rel => exact ⟨i + 1, by omega, by go_num, oa, h.set k (enC c x i), oc, by (rw [List.length_set]; first | rfl | rw [hG]), hF.out.1, hF.out.2⟩
                                case measure => simp [intOf]; omega
                              | false =>
                                have hZ1 : Hid (Y.heap[C]? = some (oCl c) ∧ NdS w Y h oa oc ∧ Y.rangeAt b0 o0 x.cells ∧ b0 ≠ C ∧ w.heap.size ≤ C ∧ ∀ b ∈ blk oa, b ≠ C) := ⟨hY1.out.1, hY1.out.2.1, hY1.out.2.2.1, hbc.out, hY1.out.2.2.2.1, hY1.out.2.2.2.2⟩
                                have k6 := (cl7 hZ1.out.1).2.2.2.2.2.2
                                clear hY1
                                go_upto_region 29 with (first
                                  | ((with_reducible refine at_storeL 3 _ _ rfl ?_); refine stopL_out ?_; refine wpList_puti rfl 3 _ _ rfl ⟨C, 6, none⟩ rfl (2 * (i : Int)) rfl (by kernel_rfl) _ k6 (frozen_of_row _ _ _ _ _ hZ1.out.1) fun Y2 hY2 => ?_; (have hZ2 : Hid (Y2.heap[C]? = some (oCl ⟨c.go, c.d, c.inn, c.out, c.em, c.bg, 2 * (i : Int)⟩) ∧ NdS w Y2 h oa oc ∧ Y2.rangeAt b0 o0 x.cells ∧ b0 ≠ C ∧ w.heap.size ≤ C ∧ ∀ b ∈ blk oa, b ≠ C) := ⟨(by rw [hY2]; exact heap_setCell_same Y C 6 _ _ _ hZ1.out.1), hnx Y Y2 c 6 _ hY2 hZ1.out.2⟩); (have k4 := (cl7 hZ2.out.1).2.2.2.2.1); clear hY2 k6)
                                  | ((with_reducible refine at_storeL 4 _ _ rfl ?_); refine stopL_out ?_; refine wpList_putb rfl 4 _ _ rfl ⟨C, 4, none⟩ rfl false rfl (by kernel_rfl) _ k4 (frozen_of_row _ _ _ _ _ hZ2.out.1) fun Y3 hY3 => ?_; (have hZ3 : Hid (Y3.heap[C]? = some (oCl ⟨c.go, c.d, c.inn, c.out, false, c.bg, 2 * (i : Int)⟩) ∧ NdS w Y3 h oa oc ∧ Y3.rangeAt b0 o0 x.cells ∧ b0 ≠ C ∧ w.heap.size ≤ C ∧ ∀ b ∈ blk oa, b ≠ C) := ⟨(by rw [hY3]; exact heap_setCell_same Y2 C 4 _ _ _ hZ2.out.1), hnx Y2 Y3 c 4 _ hY3 hZ2.out.2⟩); clear hY3 k4 hZ2))
                                have k1 := (cl7 hZ3.out.1).2.1
                                have k3 := (cl7 hZ3.out.1).2.2.2.1
                                have e5 := hZ3.out.2.2.1 5 _ rfl
                                clear hZ1
                                go_upto_region 31 with fail
                                clear k1 k3 e5
                                obtain ⟨G', hG', hGlo, hGlt, rG, xG'⟩ := cl_own hZ3.out.2.1.o hkH.out
                                have e : G' = G := by
                                  rw [hG] at hG'
                                  simp only [Option.some.injEq, Addr.mk.injEq, and_true] at hG'
                                  exact hG'.symm
                                subst e
                                have hth : Hid (Y3.there G' (k * 7) 7 ∧ G' ≠ C) := ⟨fun j hj => by
                                  subst hG
                                  have hkm : (h.map Cl.cells)[k]? = some (hf h k).cells := by rw [List.getElem?_map, hf_at hkH.out]; rfl
                                  obtain ⟨v, hv⟩ : ∃ v, (hf h k).cells[j]? = some v := ⟨_, List.getElem?_eq_getElem (show j < 7 from hj)⟩
                                  have := own_cellAt hZ3.out.2.1.o (cl_len h) k _ hkm j v hv
                                  exact ⟨by rw [this.1]; rfl, this.2⟩, hZ3.out.2.2.2.2.2 G' (by rw [hG]; simp [blk])⟩
                                clear rG xG' hG' hGlo hGlt
                                go_wp2_with (first
                                  | ((with_reducible refine at_loadL 53 _ rfl ?_); refine stopL_out ?_; refine wpList_load_mid rfl 53 _ rfl C 0 rfl [.int .i64 c.go, .int .i64 c.d, .int .i64 c.inn, .int .i64 c.out, .bool false, .int .i64 c.bg, .int .i64 (2 * (i : Int))] _ (rng_blk hZ3.out.1) huC.out rfl infoX ?_)
                                  | ((with_reducible refine at_storeL 53 _ _ rfl ?_); refine stopL_out ?_; refine wpList_store_mid rfl 53 _ _ rfl G' (k * 7) #[.int .i64 c.go, .int .i64 c.d, .int .i64 c.inn, .int .i64 c.out, .bool false, .int .i64 c.bg, .int .i64 (2 * (i : Int))] rfl rfl hth.out.1 infoX (by simp [Value.oneCell']) ?_))
                                have hF : Hid (NdS w (Y3.setCells G' (k * 7) [.int .i64 c.go, .int .i64 c.d, .int .i64 c.inn, .int .i64 c.out, .bool false, .int .i64 c.bg, .int .i64 (2 * (i : Int))]) (h.set k (enC c x i)) oa oc ∧ notedP (i + 1) (h.set k (enC c x i)) (l.drop (i + 1)) = notedP 0 [] l) := by
                                  have he : enC c x i = ⟨c.go, c.d, c.inn, c.out, false, c.bg, 2 * (i : Int)⟩ := by
                                    unfold enC
                                    rw [htd.out.2]
                                    rw [show tellsB c.d = false by (unfold tellsB; rw [t1, t5]; rfl)]; rfl
                                  refine ⟨⟨?_, ?_, ?_⟩, ?_⟩
                                  · rw [he]
                                    subst hG
                                    exact cl_rowset (c' := ⟨c.go, c.d, c.inn, c.out, false, c.bg, 2 * (i : Int)⟩) hZ3.out.2.1.o hkH.out
                                  · exact below_setCells (by have := (blk_lt hZ3.out.2.1.o G' (by rw [hG]; simp [blk])).1; exact this) _ _ _ _ hZ3.out.2.1.b
                                  · rw [← hcH.out]; exact hZ3.out.2.1.v.endd hkH.out
                                  · rw [← hstep.out]
                                    unfold noteP
                                    rw [if_neg (by rw [hsp.out]; simp), if_neg (by rw [htd.out.2]; decide), hkn.out, Int.toNat_natCast, hcH.out, if_neg (fun z => z.elim (fun z => hkI z) fun z => z (by rw [hcdH.out, htd.out.1]))]
                                    rfl
                                generalize World.setCells _ _ _ _ = Z9 at *
                                go_roundw
                                case rel => exact ⟨i + 1, by omega, by go_num, oa, h.set k (enC c x i), oc, by (rw [List.length_set]; first | rfl | rw [hG]), hF.out.1, hF.out.2⟩
                                case measure => simp [intOf]; omega
                          · have hcdb : (c.d != d) = true := by rw [bne_iff_ne]; exact hcd
                            have hcdH : Hid (c.d ≠ d) := hcd
                            clear hcd hc
                            have hnone : Hid (notedP 0 [] l = none) := by
                              show _ = _
                              rw [← hstep.out]
                              unfold noteP
                              rw [if_neg (by rw [hsp.out]; simp), if_neg (by rw [htd.out.2]; decide), if_pos (.inr (by rw [hkn.out, Int.toNat_natCast, hcH.out, htd.out.1]; exact hcdH.out))]
                              rfl
                            go_wp2
                            go_ret2
                            exact ⟨.inr ⟨rfl, .inl ⟨hnone.out, rfl⟩⟩, hDq.out.b⟩
                  · have hd5b : (d != 5) = false := by simpa using hg3
                    clear hg3
                    rename World => W1
                    go_wp2_with fail
                    go_loopw [9, 10] (fun u9 u wr => ∃ j : Nat, j ≤ h.length ∧ u = .int .i64 (j : Int) ∧ u9 = .int .i64 (lastP (fun k => (hf h k).go == x.go && (hf h k).pend) j) ∧ Hid (NdS w wr h oa oc ∧ Below W1.heap.size W1 wr)) (fun _ u _ => h.length - (intOf u).toNat)
                    case atStart => exact ⟨0, Nat.zero_le _, rfl, rfl, hD.out, Below.refl _ _⟩
                    case round =>
                      obtain ⟨j, hj, rfl, rfl, hq⟩ := hrel
                      by_cases hlj : j < h.length
                      · have hjI : (j : Int) < h.length := by omega
                        obtain ⟨b1, o1, x1, hl1, r1⟩ := cl_ix (own_rows hq.out.1.o (cl_len h)) hlj
                        have r0H : Hid (wr.rangeAt b0 o0 x.cells ∧ b0 < wr.heap.size) := ⟨range_blk hrgH.out (hq.out.2.block _ hblH.out), by have := hq.out.2.size; have := hblH.out; omega⟩
                        have hst : lastP (fun k => (hf h k).go == x.go && (hf h k).pend) (j + 1) = if ((hf h j).go == x.go && (hf h j).pend) then (j : Int) else lastP (fun k => (hf h k).go == x.go && (hf h k).pend) j := lastP_step
                        have hpe : ((hf h j).en == -1) = (hf h j).pend := rfl
                        obtain ⟨y, hy⟩ : ∃ y, hf h j = y := ⟨_, rfl⟩
                        rw [hy] at r1 hst hpe
                        have r1H : Hid (wr.rangeAt b1 o1 y.cells ∧ b1 < wr.heap.size) := ⟨r1, hl1⟩
                        have hstH : Hid _ := hst
                        clear r1 hst hy hl1
                        obtain ⟨a, ha⟩ : ∃ a, (y.go == x.go) = a := ⟨_, rfl⟩
                        rw [ha] at hstH
                        obtain ⟨p, hp⟩ : ∃ p, y.pend = p := ⟨_, rfl⟩
                        rw [hp] at hstH hpe
                        clear hp
                        go_upto_region 15 with fail
                        have hS : Hid (Below wr.heap.size wr wr.drew) := bey_drew wr
                        have hRd : Hid (∀ w', Below wr.heap.size wr w' → w'.rangeAt b1 o1 y.cells ∧ w'.rangeAt b0 o0 x.cells) := fun w' z => ⟨range_blk r1H.out.1 (z.block _ r1H.out.2), range_blk r0H.out.1 (z.block _ r0H.out.2)⟩
                        have hq9 : Hid (NdS w wr.drew h oa oc ∧ Below W1.heap.size W1 wr.drew) := ⟨hq.out.1.later hS.out, bthen hq.out.2 hS.out⟩
                        refine wp_region_noPanic ?_
                        refine wp_region_held_drew (S := fun w' => Below wr.heap.size wr w') (by kernel_rfl) hS.out (fun _ => ?_)
                        refine reg_move (i := 0) rfl (by kernel_rfl) (by kernel_rfl) (by kernel_rfl) (fun _ _ _ _ h => h) rfl (.slice oa h.length oc) (fun _ => rfl) hS.out ?_
                        simp only [Act.put, List.getElem_toArray, List.getElem_cons_succ, List.getElem_cons_zero, List.setIfInBounds_toArray, List.set_cons_zero, List.set_cons_succ]
                        refine reg_move (i := 1) rfl (by kernel_rfl) (by kernel_rfl) (by kernel_rfl) (fun _ _ _ _ h => h) rfl (.int .i64 (j : Int)) (fun _ => rfl) hS.out ?_
                        simp only [Act.put, List.getElem_toArray, List.getElem_cons_succ, List.getElem_cons_zero, List.setIfInBounds_toArray, List.set_cons_zero, List.set_cons_succ]
                        refine reg_move (i := 2) rfl (by kernel_rfl) (by kernel_rfl) (by kernel_rfl) (fun _ _ _ _ h => h) rfl (.pointer (some ⟨b1, o1, none⟩)) (fun wx => by unfold execOp; exact run_value_of (x1 wx)) hS.out ?_
                        simp only [Act.put, List.getElem_toArray, List.getElem_cons_succ, List.getElem_cons_zero, List.setIfInBounds_toArray, List.set_cons_zero, List.set_cons_succ]
                        refine reg_move (i := 3) rfl (by kernel_rfl) (by kernel_rfl) (by kernel_rfl) (fun _ _ _ _ h => h) rfl (.pointer (some ⟨b1, o1 + 0, none⟩)) (fun _ => rfl) hS.out ?_
                        simp only [Act.put, List.getElem_toArray, List.getElem_cons_succ, List.getElem_cons_zero, List.setIfInBounds_toArray, List.set_cons_zero, List.set_cons_succ]
                        refine reg_load1 (i := 4) rfl (by kernel_rfl) (by kernel_rfl) (by kernel_rfl) (fun _ _ _ _ h => h) rfl 3 _ rfl ⟨b1, o1 + 0, none⟩ rfl _ Try.underlying3 rfl (.int .i64 y.go) (fun w' z => (hRd.out w' z).1 0 _ rfl) hS.out ?_
                        simp only [Act.put, List.getElem_toArray, List.getElem_cons_succ, List.getElem_cons_zero, List.setIfInBounds_toArray, List.set_cons_zero, List.set_cons_succ]
                        refine reg_move (i := 5) rfl (by kernel_rfl) (by kernel_rfl) (by kernel_rfl) (fun _ _ _ _ h => h) rfl (.slice la l.length lc) (fun _ => rfl) hS.out ?_
                        simp only [Act.put, List.getElem_toArray, List.getElem_cons_succ, List.getElem_cons_zero, List.setIfInBounds_toArray, List.set_cons_zero, List.set_cons_succ]
                        refine reg_move (i := 6) rfl (by kernel_rfl) (by kernel_rfl) (by kernel_rfl) (fun _ _ _ _ h => h) rfl (.int .i64 (i : Int)) (fun _ => rfl) hS.out ?_
                        simp only [Act.put, List.getElem_toArray, List.getElem_cons_succ, List.getElem_cons_zero, List.setIfInBounds_toArray, List.set_cons_zero, List.set_cons_succ]
                        refine reg_move (i := 7) rfl (by kernel_rfl) (by kernel_rfl) (by kernel_rfl) (fun _ _ _ _ h => h) rfl (.pointer (some ⟨b0, o0, none⟩)) (fun wx => by unfold execOp; exact run_value_of (hix wx)) hS.out ?_
                        simp only [Act.put, List.getElem_toArray, List.getElem_cons_succ, List.getElem_cons_zero, List.setIfInBounds_toArray, List.set_cons_zero, List.set_cons_succ]
                        refine reg_move (i := 8) rfl (by kernel_rfl) (by kernel_rfl) (by kernel_rfl) (fun _ _ _ _ h => h) rfl (.pointer (some ⟨b0, o0 + 0, none⟩)) (fun _ => rfl) hS.out ?_
                        simp only [Act.put, List.getElem_toArray, List.getElem_cons_succ, List.getElem_cons_zero, List.setIfInBounds_toArray, List.set_cons_zero, List.set_cons_succ]
                        refine reg_load1 (i := 9) rfl (by kernel_rfl) (by kernel_rfl) (by kernel_rfl) (fun _ _ _ _ h => h) rfl 3 _ rfl ⟨b0, o0 + 0, none⟩ rfl _ Try.underlying3 rfl (.int .i64 x.go) (fun w' z => (hRd.out w' z).2 0 _ rfl) hS.out ?_
                        simp only [Act.put, List.getElem_toArray, List.getElem_cons_succ, List.getElem_cons_zero, List.setIfInBounds_toArray, List.set_cons_zero, List.set_cons_succ]
                        refine reg_move (i := 10) rfl (by kernel_rfl) (by kernel_rfl) (by kernel_rfl) (fun _ _ _ _ h => h) rfl (.bool (y.go == x.go)) (fun _ => rfl) hS.out ?_
                        simp only [Act.put, List.getElem_toArray, List.getElem_cons_succ, List.getElem_cons_zero, List.setIfInBounds_toArray, List.set_cons_zero, List.set_cons_succ]
                        rw [ha]
                        cases a with
                        | false =>
                          refine reg_move (i := 11) rfl (by kernel_rfl) (by kernel_rfl) (by kernel_rfl) (fun _ _ _ _ h => h) rfl (.bool false) (fun _ => rfl) hS.out ?_
                          simp only [Act.put, List.getElem_toArray, List.getElem_cons_succ, List.getElem_cons_zero, List.setIfInBounds_toArray, List.set_cons_zero, List.set_cons_succ]
                          refine reg_skipL (i := 12) rfl (by kernel_rfl) (by kernel_rfl) (by kernel_rfl) (fun _ _ _ _ h => h) rfl hS.out ?_
                          simp only [Act.put, List.getElem_toArray, List.getElem_cons_succ, List.getElem_cons_zero, List.setIfInBounds_toArray, List.set_cons_zero, List.set_cons_succ]
                          refine reg_skipL (i := 13) rfl (by kernel_rfl) (by kernel_rfl) (by kernel_rfl) (fun _ _ _ _ h => h) rfl hS.out ?_
                          simp only [Act.put, List.getElem_toArray, List.getElem_cons_succ, List.getElem_cons_zero, List.setIfInBounds_toArray, List.set_cons_zero, List.set_cons_succ]
                          refine reg_skipL (i := 14) rfl (by kernel_rfl) (by kernel_rfl) (by kernel_rfl) (fun _ _ _ _ h => h) rfl hS.out ?_
                          simp only [Act.put, List.getElem_toArray, List.getElem_cons_succ, List.getElem_cons_zero, List.setIfInBounds_toArray, List.set_cons_zero, List.set_cons_succ]
                          refine reg_skipL (i := 15) rfl (by kernel_rfl) (by kernel_rfl) (by kernel_rfl) (fun _ _ _ _ h => h) rfl hS.out ?_
                          simp only [Act.put, List.getElem_toArray, List.getElem_cons_succ, List.getElem_cons_zero, List.setIfInBounds_toArray, List.set_cons_zero, List.set_cons_succ]
                          refine reg_skipL (i := 16) rfl (by kernel_rfl) (by kernel_rfl) (by kernel_rfl) (fun _ _ _ _ h => h) rfl hS.out ?_
                          simp only [Act.put, List.getElem_toArray, List.getElem_cons_succ, List.getElem_cons_zero, List.setIfInBounds_toArray, List.set_cons_zero, List.set_cons_succ]
                          refine reg_skipL (i := 17) rfl (by kernel_rfl) (by kernel_rfl) (by kernel_rfl) (fun _ _ _ _ h => h) rfl hS.out ?_
                          simp only [Act.put, List.getElem_toArray, List.getElem_cons_succ, List.getElem_cons_zero, List.setIfInBounds_toArray, List.set_cons_zero, List.set_cons_succ]
                          refine reg_move (i := 18) rfl (by kernel_rfl) (by kernel_rfl) (by kernel_rfl) (fun _ _ _ _ h => h) rfl (.bool false) (fun _ => rfl) hS.out ?_
                          simp only [Act.put, List.getElem_toArray, List.getElem_cons_succ, List.getElem_cons_zero, List.setIfInBounds_toArray, List.set_cons_zero, List.set_cons_succ]
                          refine wpAnyH_done (by kernel_rfl) (NoPanic.normal ?_) _
                          go_wp2
                          go_roundw
                          case rel => exact ⟨j + 1, by omega, by go_num, by (rw [hstH.out]; rfl), hq9.out⟩
                          case measure => simp [intOf]; omega
                        | true =>
                          refine reg_move (i := 11) rfl (by kernel_rfl) (by kernel_rfl) (by kernel_rfl) (fun _ _ _ _ h => h) rfl (.bool true) (fun _ => rfl) hS.out ?_
                          simp only [Act.put, List.getElem_toArray, List.getElem_cons_succ, List.getElem_cons_zero, List.setIfInBounds_toArray, List.set_cons_zero, List.set_cons_succ]
                          refine reg_move (i := 12) rfl (by kernel_rfl) (by kernel_rfl) (by kernel_rfl) (fun _ _ _ _ h => h) rfl (.slice oa h.length oc) (fun _ => rfl) hS.out ?_
                          simp only [Act.put, List.getElem_toArray, List.getElem_cons_succ, List.getElem_cons_zero, List.setIfInBounds_toArray, List.set_cons_zero, List.set_cons_succ]
                          refine reg_move (i := 13) rfl (by kernel_rfl) (by kernel_rfl) (by kernel_rfl) (fun _ _ _ _ h => h) rfl (.int .i64 (j : Int)) (fun _ => rfl) hS.out ?_
                          simp only [Act.put, List.getElem_toArray, List.getElem_cons_succ, List.getElem_cons_zero, List.setIfInBounds_toArray, List.set_cons_zero, List.set_cons_succ]
                          refine reg_move (i := 14) rfl (by kernel_rfl) (by kernel_rfl) (by kernel_rfl) (fun _ _ _ _ h => h) rfl (.pointer (some ⟨b1, o1, none⟩)) (fun wx => by unfold execOp; exact run_value_of (x1 wx)) hS.out ?_
                          simp only [Act.put, List.getElem_toArray, List.getElem_cons_succ, List.getElem_cons_zero, List.setIfInBounds_toArray, List.set_cons_zero, List.set_cons_succ]
                          refine reg_move (i := 15) rfl (by kernel_rfl) (by kernel_rfl) (by kernel_rfl) (fun _ _ _ _ h => h) rfl (.pointer (some ⟨b1, o1 + 6, none⟩)) (fun _ => rfl) hS.out ?_
                          simp only [Act.put, List.getElem_toArray, List.getElem_cons_succ, List.getElem_cons_zero, List.setIfInBounds_toArray, List.set_cons_zero, List.set_cons_succ]
                          refine reg_load1 (i := 16) rfl (by kernel_rfl) (by kernel_rfl) (by kernel_rfl) (fun _ _ _ _ h => h) rfl 3 _ rfl ⟨b1, o1 + 6, none⟩ rfl _ Try.underlying3 rfl (.int .i64 y.en) (fun w' z => (hRd.out w' z).1 6 _ rfl) hS.out ?_
                          simp only [Act.put, List.getElem_toArray, List.getElem_cons_succ, List.getElem_cons_zero, List.setIfInBounds_toArray, List.set_cons_zero, List.set_cons_succ]
                          refine reg_move (i := 17) rfl (by kernel_rfl) (by kernel_rfl) (by kernel_rfl) (fun _ _ _ _ h => h) rfl (.bool (y.en == -1)) (fun _ => rfl) hS.out ?_
                          simp only [Act.put, List.getElem_toArray, List.getElem_cons_succ, List.getElem_cons_zero, List.setIfInBounds_toArray, List.set_cons_zero, List.set_cons_succ]
                          refine reg_move (i := 18) rfl (by kernel_rfl) (by kernel_rfl) (by kernel_rfl) (fun _ _ _ _ h => h) rfl (.bool (y.en == -1)) (fun _ => rfl) hS.out ?_
                          simp only [Act.put, List.getElem_toArray, List.getElem_cons_succ, List.getElem_cons_zero, List.setIfInBounds_toArray, List.set_cons_zero, List.set_cons_succ]
                          refine wpAnyH_done (by kernel_rfl) (NoPanic.normal ?_) _
                          rw [hpe]
                          cases p with
                          | false =>
                            go_wp2
                            go_roundw
                            case rel => exact ⟨j + 1, by omega, by go_num, by (rw [hstH.out]; rfl), hq9.out⟩
                            case measure => simp [intOf]; omega
                          | true =>
                            go_wp2
                            go_roundw
                            case rel => exact ⟨j + 1, by omega, by go_num, by (rw [hstH.out]; rfl), hq9.out⟩
                            case measure => simp [intOf]; omega
                      · have hje : j = h.length := by omega
                        have hjI : ¬ (j : Int) < h.length := by omega
                        have hoe : Hid (lastP (fun k => (hf h k).go == x.go && (hf h k).pend) j = opnN h x.go) := by (show _ = _; rw [hje]; rfl)
                        rw [hoe.out]
                        have hDq : Hid (NdS w wr h oa oc) := hq.out.1
                        have hrq : Hid (wr.rangeAt b0 o0 x.cells) := range_blk hrgH.out (hq.out.2.block _ hblH.out)
                        have hstep : Hid (nxtN i (l.drop (i + 1)) (noteP i h x) = notedP 0 [] l) := by (show _ = _; rw [← hd.out, noted_drop2 hx])
                        have hbq : Hid (b0 < wr.heap.size) := by
                          have := hq.out.2.size
                          have := hblH.out
                          show _ < _
                          omega
                        clear hq hoe hd hx hD hrgH hblH c3
                        have hblq : Hid (b0 < wr.heap.size) := hbq.out
                        rcases opn_spec (h := h) x.go with ⟨ho, _⟩ | ⟨k, hk, ho, _, _⟩
                        · have hon : Hid (opnN h x.go < 0) := by (show _ < _; omega)
                          rw [ho]
                          have hnone : Hid (notedP 0 [] l = none) := by
                            show _ = _
                            rw [← hstep.out]
                            unfold noteP
                            rw [if_neg (by rw [hsp.out]; simp), if_neg (by rw [htd.out.2]; decide), if_pos (.inl hon.out)]
                            rfl
                          go_wp2
                          go_ret2
                          exact ⟨.inr ⟨rfl, .inl ⟨hnone.out, rfl⟩⟩, hDq.out.b⟩
                        · have hkn : Hid (opnN h x.go = (k : Int)) := ho
                          rw [ho]
                          clear ho
                          obtain ⟨G, hG, hGlo, hGlt, rG, xG⟩ := cl_own hDq.out.o hk
                          have hkH : Hid (k < h.length) := hk
                          obtain ⟨c, hc⟩ : ∃ c, hf h k = c := ⟨_, rfl⟩
                          have hcH : Hid (hf h k = c) := hc
                          rw [hc] at rG
                          have g1 := rG 1 _ rfl
                          have hkI : ¬ (k : Int) < 0 := by omega
                          by_cases hcd : c.d = d
                          · have hcdb : (c.d != d) = false := by rw [hcd]; simp
                            have hcdH : Hid (c.d = d) := hcd
                            have rGH : Hid (wr.rangeAt G (k * 7) [.int .i64 c.go, .int .i64 c.d, .int .i64 c.inn, .int .i64 c.out, .bool c.em, .int .i64 c.bg, .int .i64 c.en] ∧ w.heap.size ≤ G ∧ G < wr.heap.size) := ⟨rG, hGlo, hGlt⟩
                            have e5 := hrq.out 5 _ rfl
                            clear rG hGlo hGlt hc hk hcd
                            go_upto_region 27 with (first
                              | ((with_reducible refine at_loadL 53 _ rfl ?_); refine stopL_out ?_; refine wpList_load_mid rfl 53 _ rfl G (k * 7) rfl [.int .i64 c.go, .int .i64 c.d, .int .i64 c.inn, .int .i64 c.out, .bool c.em, .int .i64 c.bg, .int .i64 c.en] _ rGH.out.1 huC.out rfl infoX ?_)
                              | ((with_reducible refine at_allocL 53 rfl ?_); refine stopL_out ?_; refine wpList_alloc_big rfl 53 rfl zeroClN ?_)
                              | ((with_reducible refine at_storeL 53 _ _ rfl ?_); refine stopL_out ?_; refine wpList_store_row rfl 53 _ _ rfl wr.heap.size #[.int .i64 c.go, .int .i64 c.d, .int .i64 c.inn, .int .i64 c.out, .bool c.em, .int .i64 c.bg, .int .i64 c.en] rfl rfl _ _ (heap_alloc_new _ _) infoX rfl (by simp [Value.oneCell']) ?_))
                            obtain ⟨Y, hY⟩ : ∃ Y, (wr.alloc (.cells #[.int .i64 0, .int .i64 0, .int .i64 0, .int .i64 0, .bool false, .int .i64 0, .int .i64 0] 53)).setRow wr.heap.size #[.int .i64 c.go, .int .i64 c.d, .int .i64 c.inn, .int .i64 c.out, .bool c.em, .int .i64 c.bg, .int .i64 c.en] = Y := ⟨_, rfl⟩
                            have hY1 : Hid (Y.heap[wr.heap.size]? = some (oCl c) ∧ NdS w Y h oa oc ∧ Y.rangeAt b0 o0 x.cells ∧ w.heap.size ≤ wr.heap.size ∧ ∀ b ∈ blk oa, b ≠ wr.heap.size) := by
                              rw [← hY]
                              exact ⟨new_row.1, hDq.out.later new_row.2, range_blk hrq.out (new_row.2.block _ hblq.out), hDq.out.b.size, fun b hb => by have := (blk_lt hDq.out.o b hb).2; omega⟩
                            rw [hY]
                            obtain ⟨C, hC⟩ : ∃ C, wr.heap.size = C := ⟨_, rfl⟩
                            rw [hC] at hY1 ⊢
                            have hbc : Hid (b0 ≠ C) := by have := hblq.out; show _ ≠ _; omega
                            clear hY hDq hrq hblq hC rGH e5 g1
                            have hnx : ∀ (Y Y' : World) (y : Cl) (p : Nat) (v : Value), Y' = Y.setCell ⟨C, p, none⟩ v → (NdS w Y h oa oc ∧ Y.rangeAt b0 o0 x.cells ∧ b0 ≠ C ∧ w.heap.size ≤ C ∧ ∀ b ∈ blk oa, b ≠ C) → (NdS w Y' h oa oc ∧ Y'.rangeAt b0 o0 x.cells ∧ b0 ≠ C ∧ w.heap.size ≤ C ∧ ∀ b ∈ blk oa, b ≠ C) := fun Y Y' y p v e ⟨q1, q2, q3, q4, q5⟩ => by
                              rw [e]
                              exact ⟨⟨own_keep q1.o fun b hb => heap_setCell_other _ ⟨C, p, none⟩ b _ (q5 b hb), q1.b.setCell (p := ⟨C, p, none⟩) q4 _, q1.v⟩, range_blk q2 (heap_setCell_other _ ⟨C, p, none⟩ b0 _ q3), q3, q4, q5⟩
                            have hZ1 : Hid (Y.heap[C]? = some (oCl c) ∧ NdS w Y h oa oc ∧ Y.rangeAt b0 o0 x.cells ∧ b0 ≠ C ∧ w.heap.size ≤ C ∧ ∀ b ∈ blk oa, b ≠ C) := ⟨hY1.out.1, hY1.out.2.1, hY1.out.2.2.1, hbc.out, hY1.out.2.2.2.1, hY1.out.2.2.2.2⟩
                            have k6 := (cl7 hZ1.out.1).2.2.2.2.2.2
                            clear hY1
                            go_upto_region 29 with (first
                              | ((with_reducible refine at_storeL 3 _ _ rfl ?_); refine stopL_out ?_; refine wpList_puti rfl 3 _ _ rfl ⟨C, 6, none⟩ rfl (2 * (i : Int)) rfl (by kernel_rfl) _ k6 (frozen_of_row _ _ _ _ _ hZ1.out.1) fun Y2 hY2 => ?_; (have hZ2 : Hid (Y2.heap[C]? = some (oCl ⟨c.go, c.d, c.inn, c.out, c.em, c.bg, 2 * (i : Int)⟩) ∧ NdS w Y2 h oa oc ∧ Y2.rangeAt b0 o0 x.cells ∧ b0 ≠ C ∧ w.heap.size ≤ C ∧ ∀ b ∈ blk oa, b ≠ C) := ⟨(by rw [hY2]; exact heap_setCell_same Y C 6 _ _ _ hZ1.out.1), hnx Y Y2 c 6 _ hY2 hZ1.out.2⟩); (have k4 := (cl7 hZ2.out.1).2.2.2.2.1); clear hY2 k6)
                              | ((with_reducible refine at_storeL 4 _ _ rfl ?_); refine stopL_out ?_; refine wpList_putb rfl 4 _ _ rfl ⟨C, 4, none⟩ rfl true rfl (by kernel_rfl) _ k4 (frozen_of_row _ _ _ _ _ hZ2.out.1) fun Y3 hY3 => ?_; (have hZ3 : Hid (Y3.heap[C]? = some (oCl ⟨c.go, c.d, c.inn, c.out, true, c.bg, 2 * (i : Int)⟩) ∧ NdS w Y3 h oa oc ∧ Y3.rangeAt b0 o0 x.cells ∧ b0 ≠ C ∧ w.heap.size ≤ C ∧ ∀ b ∈ blk oa, b ≠ C) := ⟨(by rw [hY3]; exact heap_setCell_same Y2 C 4 _ _ _ hZ2.out.1), hnx Y2 Y3 c 4 _ hY3 hZ2.out.2⟩); clear hY3 k4 hZ2))
                            have k1 := (cl7 hZ3.out.1).2.1
                            have k3 := (cl7 hZ3.out.1).2.2.2.1
                            have e5 := hZ3.out.2.2.1 5 _ rfl
                            clear hZ1
                            go_upto_region 31 with fail
                            clear k1 k3 e5
                            obtain ⟨G', hG', hGlo, hGlt, rG, xG'⟩ := cl_own hZ3.out.2.1.o hkH.out
                            have e : G' = G := by
                              rw [hG] at hG'
                              simp only [Option.some.injEq, Addr.mk.injEq, and_true] at hG'
                              exact hG'.symm
                            subst e
                            have hth : Hid (Y3.there G' (k * 7) 7 ∧ G' ≠ C) := ⟨fun j hj => by
                              subst hG
                              have hkm : (h.map Cl.cells)[k]? = some (hf h k).cells := by rw [List.getElem?_map, hf_at hkH.out]; rfl
                              obtain ⟨v, hv⟩ : ∃ v, (hf h k).cells[j]? = some v := ⟨_, List.getElem?_eq_getElem (show j < 7 from hj)⟩
                              have := own_cellAt hZ3.out.2.1.o (cl_len h) k _ hkm j v hv
                              exact ⟨by rw [this.1]; rfl, this.2⟩, hZ3.out.2.2.2.2.2 G' (by rw [hG]; simp [blk])⟩
                            clear rG xG' hG' hGlo hGlt
                            go_wp2_with (first
                              | ((with_reducible refine at_loadL 53 _ rfl ?_); refine stopL_out ?_; refine wpList_load_mid rfl 53 _ rfl C 0 rfl [.int .i64 c.go, .int .i64 c.d, .int .i64 c.inn, .int .i64 c.out, .bool true, .int .i64 c.bg, .int .i64 (2 * (i : Int))] _ (rng_blk hZ3.out.1) huC.out rfl infoX ?_)
                              | ((with_reducible refine at_storeL 53 _ _ rfl ?_); refine stopL_out ?_; refine wpList_store_mid rfl 53 _ _ rfl G' (k * 7) #[.int .i64 c.go, .int .i64 c.d, .int .i64 c.inn, .int .i64 c.out, .bool true, .int .i64 c.bg, .int .i64 (2 * (i : Int))] rfl rfl hth.out.1 infoX (by simp [Value.oneCell']) ?_))
                            have hF : Hid (NdS w (Y3.setCells G' (k * 7) [.int .i64 c.go, .int .i64 c.d, .int .i64 c.inn, .int .i64 c.out, .bool true, .int .i64 c.bg, .int .i64 (2 * (i : Int))]) (h.set k (enC c x i)) oa oc ∧ notedP (i + 1) (h.set k (enC c x i)) (l.drop (i + 1)) = notedP 0 [] l) := by
                              have he : enC c x i = ⟨c.go, c.d, c.inn, c.out, true, c.bg, 2 * (i : Int)⟩ := by
                                unfold enC
                                rw [htd.out.2]
                                rfl
                              refine ⟨⟨?_, ?_, ?_⟩, ?_⟩
                              · rw [he]
                                subst hG
                                exact cl_rowset (c' := ⟨c.go, c.d, c.inn, c.out, true, c.bg, 2 * (i : Int)⟩) hZ3.out.2.1.o hkH.out
                              · exact below_setCells (by have := (blk_lt hZ3.out.2.1.o G' (by rw [hG]; simp [blk])).1; exact this) _ _ _ _ hZ3.out.2.1.b
                              · rw [← hcH.out]; exact hZ3.out.2.1.v.endd hkH.out
                              · rw [← hstep.out]
                                unfold noteP
                                rw [if_neg (by rw [hsp.out]; simp), if_neg (by rw [htd.out.2]; decide), hkn.out, Int.toNat_natCast, hcH.out, if_neg (fun z => z.elim (fun z => hkI z) fun z => z (by rw [hcdH.out, htd.out.1]))]
                                rfl
                            generalize World.setCells _ _ _ _ = Z9 at *
                            go_roundw
                            case rel => exact ⟨i + 1, by omega, by go_num, oa, h.set k (enC c x i), oc, by (rw [List.length_set]; first | rfl | rw [hG]), hF.out.1, hF.out.2⟩
                            case measure => simp [intOf]; omega
                          · have hcdb : (c.d != d) = true := by rw [bne_iff_ne]; exact hcd
                            have hcdH : Hid (c.d ≠ d) := hcd
                            clear hcd hc
                            have hnone : Hid (notedP 0 [] l = none) := by
                              show _ = _
                              rw [← hstep.out]
                              unfold noteP
                              rw [if_neg (by rw [hsp.out]; simp), if_neg (by rw [htd.out.2]; decide), if_pos (.inr (by rw [hkn.out, Int.toNat_natCast, hcH.out, htd.out.1]; exact hcdH.out))]
                              rfl
                            go_wp2
                            go_ret2
                            exact ⟨.inr ⟨rfl, .inl ⟨hnone.out, rfl⟩⟩, hDq.out.b⟩
      · have hop2 : (x.op != 65) = true := by rw [bne_iff_ne]; exact hop
        have hsp : spkN x = false := Bool.eq_false_iff.mpr fun q => hop (hskH.out.mp q).1
        have hskip : Hid (notedP (i + 1) h (l.drop (i + 1)) = notedP 0 [] l) := by
          show _ = _
          rw [← hd.out, noted_drop2 hx, note_skip hsp]
          rfl
        clear hx hd hsp hskH htdH
        go_wp2
        go_roundw
        case rel => exact ⟨i + 1, by omega, by go_num, oa, h, oc, rfl, hD.out, hskip.out⟩
        case measure => simp [intOf]; omega
    · have hie : i = l.length := by omega
      have hiI : ¬ (i : Int) < l.length := by omega
      have hfin : Hid (notedP 0 [] l = some h) := by
        show _ = _
        rw [← hd.out, hie, List.drop_length]; rfl
      go_wp2
      go_ret2
      exact ⟨.inr ⟨rfl, .inr ⟨h, oa, oc, hfin.out, rfl, own_rows hD.out.o (cl_len h), hD.out.v.n⟩⟩, hD.out.b⟩
theorem rnoted_any (hl : Rows w 26 la lc (l.map Ev.cells)) (hW : ∀ x ∈ l, I64 x.tag) (c : Int) (hc : checkP l c) : Calls Try.prog 23 #[.slice la l.length lc] w fun e w' => NdQ w c (notedP 0 [] l) e w' ∧ Below w.heap.size w w' := by
  by_cases h0 : c = 0
  · subst h0
    rcases hc with ⟨_, q⟩ | ⟨_, _, q⟩ | ⟨h1, h2, _⟩
    · omega
    · omega
    · exact rnoted_ok hl h1 h2 hW
  · exact rnoted_bad hl c hc h0
end
end Go.Proofs.Ytklpifammbnldaa.pg
/- LinearNotes, walked. -/
namespace Go.Proofs.Ytklpifammbnldaa.pg
open Go.ChangeShapes Go.WideShapes Go.ChangeAt Go.RowKit
set_option linter.unusedVariables false
set_option linter.unusedSimpArgs false
set_option maxRecDepth 100000
attribute [local go_sem ↓] Go.wp_at_zero Go.wp_at_succ
theorem run_neC (x : Cl) (w : World) : (binOp .neq 53 (.agg #[.int .i64 x.go, .int .i64 x.d, .int .i64 x.inn, .int .i64 x.out, .bool x.em, .int .i64 x.bg, .int .i64 x.en]) (.agg #[.int .i64 x.go, .int .i64 x.d, .int .i64 x.inn, .int .i64 x.out, .bool x.em, .int .i64 x.bg, .int .i64 x.en])).run Try.prog w = .ok (.bool false) w := by
  have u0 := Try.underlying4
  have a0 := Try.isAgg4
  have z0 := Try.sizeOf4
  have u1 := Try.underlying3
  have a1 := Try.isAgg3
  have z1 := Try.sizeOf3
  have u2 := Try.underlying2
  have a2 := Try.isAgg2
  have z2 := Try.sizeOf2
  have hS : Try.prog.underlying 53 = some (.struct (Try.prog.fieldsOf 53)) := by kernel_rfl
  have hp : Try.prog.stoodInHeld 53 = false := by kernel_rfl
  rw [run_neq_struct, show (10000 : Nat) = 9999 + 1 from rfl, run_equalIn_agg w 9999 53 _ _ hS hp]
  simp only [Program.fieldsOf, Try.underlying53]
  go_simp
  try simp
theorem guard_neC (x : Cl) (p q : Operand) (w : World) : ((do
    eqGuard .neq 53 p q (.agg #[.int .i64 x.go, .int .i64 x.d, .int .i64 x.inn, .int .i64 x.out, .bool x.em, .int .i64 x.bg, .int .i64 x.en]) (.agg #[.int .i64 x.go, .int .i64 x.d, .int .i64 x.inn, .int .i64 x.out, .bool x.em, .int .i64 x.bg, .int .i64 x.en])
    binOp .neq 53 (.agg #[.int .i64 x.go, .int .i64 x.d, .int .i64 x.inn, .int .i64 x.out, .bool x.em, .int .i64 x.bg, .int .i64 x.en]) (.agg #[.int .i64 x.go, .int .i64 x.d, .int .i64 x.inn, .int .i64 x.out, .bool x.em, .int .i64 x.bg, .int .i64 x.en])) : Sem Value).run Try.prog w = .ok (.bool false) w := by
  have hm : Try.prog.eqGuardType Try.prog.depth 53 = false := by kernel_rfl
  simp only [Sem.run_bind, run_eqGuard_agg (P := Try.prog) w .neq 53 p q _ _ hm, Result.andThen_ok]
  exact run_neC x w
section
variable {w : World}
set_option maxHeartbeats 4000000 in
theorem sameH_any (h : List Cl) (a b : Option Addr) (ca cb : Nat) (ha : Rows w 7 a ca (h.map Cl.cells)) (hb : Rows w 7 b cb (h.map Cl.cells)) (hn : h.length ≤ 8) : Calls Try.prog 24 #[.slice a h.length ca, .slice b h.length cb] w fun e w' => e = .returned (.bool true) ∧ Below w.heap.size w w' := by
  have hH : Hid (∀ wx, Below w.heap.size w wx → Rows wx 7 a ca (h.map Cl.cells) ∧ Rows wx 7 b cb (h.map Cl.cells)) := fun wx q => ⟨ha.later q, hb.later q⟩
  have hnI : (h.length : Int) ≤ 8 := by omega
  have hb0 : Hid (Below w.heap.size w w) := Below.refl _ _
  clear ha hb hn
  go_enter Try.func24, Try.ntmps24
  go_wp2_with fail
  go_loopw [5] (fun u wr => ∃ j : Nat, j ≤ h.length ∧ u = .int .i64 (j : Int) ∧ Hid (Below w.heap.size w wr)) (fun u _ => h.length - (intOf u).toNat)
  case atStart => exact ⟨0, Nat.zero_le _, rfl, hb0⟩
  case round =>
    obtain ⟨j, hj, rfl, hbr⟩ := hrel
    clear hb0
    by_cases hlt : j < h.length
    · have hjI : (j : Int) < h.length := by omega
      obtain ⟨b1, o1, x1, l1, r1⟩ := cl_ix (hH.out _ hbr.out).1 hlt
      obtain ⟨b2, o2, x2, l2, r2⟩ := cl_ix (hH.out _ hbr.out).2 hlt
      generalize hf h j = y at *
      go_upto_region 6 with fail
      have hS : Hid (Below wr.heap.size wr wr.drew) := bey_drew wr
      have hRd : Hid (∀ w', Below wr.heap.size wr w' → w'.rangeAt b1 o1 y.cells ∧ w'.rangeAt b2 o2 y.cells) := fun w' z => ⟨range_blk r1 (z.block _ l1), range_blk r2 (z.block _ l2)⟩
      clear r1 r2 l1 l2
      refine wp_region_noPanic ?_
      refine wp_region_held_drew (S := fun w' => Below wr.heap.size wr w') (by kernel_rfl) hS.out (fun _ => ?_)
      refine reg_move (i := 0) rfl (by kernel_rfl) (by kernel_rfl) (by kernel_rfl) (fun _ _ _ _ h => h) rfl (.slice a h.length ca) (fun _ => rfl) hS.out ?_
      simp only [Act.put, List.getElem_toArray, List.getElem_cons_succ, List.getElem_cons_zero, List.setIfInBounds_toArray, List.set_cons_zero, List.set_cons_succ]
      refine reg_move (i := 1) rfl (by kernel_rfl) (by kernel_rfl) (by kernel_rfl) (fun _ _ _ _ h => h) rfl (.int .i64 (j : Int)) (fun _ => rfl) hS.out ?_
      simp only [Act.put, List.getElem_toArray, List.getElem_cons_succ, List.getElem_cons_zero, List.setIfInBounds_toArray, List.set_cons_zero, List.set_cons_succ]
      refine reg_move (i := 2) rfl (by kernel_rfl) (by kernel_rfl) (by kernel_rfl) (fun _ _ _ _ h => h) rfl (.pointer (some ⟨b1, o1, none⟩)) (fun wx => by unfold execOp; exact run_value_of (x1 wx)) hS.out ?_
      simp only [Act.put, List.getElem_toArray, List.getElem_cons_succ, List.getElem_cons_zero, List.setIfInBounds_toArray, List.set_cons_zero, List.set_cons_succ]
      refine reg_load (i := 3) rfl (by kernel_rfl) (by kernel_rfl) (by kernel_rfl) (fun _ _ _ _ h => h) rfl 53 _ rfl b1 o1 rfl [.int .i64 y.go, .int .i64 y.d, .int .i64 y.inn, .int .i64 y.out, .bool y.em, .int .i64 y.bg, .int .i64 y.en] _ (fun w' z => (hRd.out w' z).1) Try.underlying53 rfl infoX hS.out ?_
      simp only [Act.put, List.getElem_toArray, List.getElem_cons_succ, List.getElem_cons_zero, List.setIfInBounds_toArray, List.set_cons_zero, List.set_cons_succ]
      refine reg_move (i := 4) rfl (by kernel_rfl) (by kernel_rfl) (by kernel_rfl) (fun _ _ _ _ h => h) rfl (.slice b h.length cb) (fun _ => rfl) hS.out ?_
      simp only [Act.put, List.getElem_toArray, List.getElem_cons_succ, List.getElem_cons_zero, List.setIfInBounds_toArray, List.set_cons_zero, List.set_cons_succ]
      refine reg_move (i := 5) rfl (by kernel_rfl) (by kernel_rfl) (by kernel_rfl) (fun _ _ _ _ h => h) rfl (.int .i64 (j : Int)) (fun _ => rfl) hS.out ?_
      simp only [Act.put, List.getElem_toArray, List.getElem_cons_succ, List.getElem_cons_zero, List.setIfInBounds_toArray, List.set_cons_zero, List.set_cons_succ]
      refine reg_move (i := 6) rfl (by kernel_rfl) (by kernel_rfl) (by kernel_rfl) (fun _ _ _ _ h => h) rfl (.pointer (some ⟨b2, o2, none⟩)) (fun wx => by unfold execOp; exact run_value_of (x2 wx)) hS.out ?_
      simp only [Act.put, List.getElem_toArray, List.getElem_cons_succ, List.getElem_cons_zero, List.setIfInBounds_toArray, List.set_cons_zero, List.set_cons_succ]
      refine reg_load (i := 7) rfl (by kernel_rfl) (by kernel_rfl) (by kernel_rfl) (fun _ _ _ _ h => h) rfl 53 _ rfl b2 o2 rfl [.int .i64 y.go, .int .i64 y.d, .int .i64 y.inn, .int .i64 y.out, .bool y.em, .int .i64 y.bg, .int .i64 y.en] _ (fun w' z => (hRd.out w' z).2) Try.underlying53 rfl infoX hS.out ?_
      simp only [Act.put, List.getElem_toArray, List.getElem_cons_succ, List.getElem_cons_zero, List.setIfInBounds_toArray, List.set_cons_zero, List.set_cons_succ]
      refine reg_move (i := 8) rfl (by kernel_rfl) (by kernel_rfl) (by kernel_rfl) (fun _ _ _ _ h => h) rfl (.bool false) (fun wx => by unfold execOp; exact run_value_of (guard_neC y _ _ wx)) hS.out ?_
      simp only [Act.put, List.getElem_toArray, List.getElem_cons_succ, List.getElem_cons_zero, List.setIfInBounds_toArray, List.set_cons_zero, List.set_cons_succ]
      refine wpAnyH_done (by kernel_rfl) (NoPanic.normal ?_) _
      have hb9 : Hid (Below w.heap.size w wr.drew) := bthen hbr.out hS.out
      go_wp2
      go_roundw
      case rel => exact ⟨j + 1, by omega, by go_num, hb9⟩
      case measure => simp [intOf]; omega
    · have hje : j = h.length := by omega
      have hjI : ¬ (j : Int) < h.length := by omega
      go_wp2
      go_ret
      exact ⟨rfl, hbr.out⟩
set_option maxHeartbeats 4000000 in
theorem notes_row (l : List Ev) (la : Option Addr) (lc : Nat) (w : World) (hin : EvsIn w la lc l) : Calls Try.prog 5 #[.slice la l.length lc] w fun e w' => e = .returned (.bool true) ∧ Below w.heap.size w w' := by
  obtain ⟨c, hc⟩ := check_ex l
  have hW : ∀ x ∈ l, I64 x.tag := fun x hx => (hin.2 x hx).1.2.2.2.2.2.2
  have c1 : Calls Try.prog 22 #[.slice la l.length lc] w _ := noted_any hin.1 c hc
  have c2 : ∀ wx, Below w.heap.size w wx → Calls Try.prog 23 #[.slice la l.length lc] wx _ := fun wx q => rnoted_any (hin.1.later q) hW c hc
  have cS : ∀ wx, Calls Try.prog 13 #[] wx _ := fun wx => speaks_lin wx
  clear hin hW hc
  obtain ⟨r, hr⟩ : ∃ r, notedP 0 [] l = r := ⟨_, rfl⟩
  rw [hr] at c1 c2
  clear hr
  have key : ∃ (h : List Cl) (x : Int), h.length ≤ 8 ∧ (∀ (v : World) e w', NdQ v c r e w' → ∃ a cap, e = .returned (.tuple #[.slice a h.length cap, .int .i64 x]) ∧ Rows w' 7 a cap (h.map Cl.cells)) := by
    by_cases h0 : c = 0
    · cases r with
      | none =>
        refine ⟨[], 260, by decide, fun v e w' q => ?_⟩
        rcases q with ⟨q, _⟩ | ⟨_, ⟨_, rfl⟩ | ⟨h, a, cap, q, _⟩⟩
        · exact absurd h0 q
        · exact ⟨none, 0, rfl, ⟨Nat.le_refl _, by decide, fun _ => ⟨rfl, rfl⟩, .inl rfl⟩⟩
        · cases q
      | some h =>
        by_cases h8 : h.length ≤ 8
        · refine ⟨h, 0, h8, fun v e w' q => ?_⟩
          rcases q with ⟨q, _⟩ | ⟨_, ⟨q, _⟩ | ⟨h', a, cap, q, rfl, hr, _⟩⟩
          · exact absurd h0 q
          · cases q
          · cases q
            exact ⟨a, cap, rfl, hr⟩
        · refine ⟨[], 0, by decide, fun v e w' q => ?_⟩
          rcases q with ⟨q, _⟩ | ⟨_, ⟨q, _⟩ | ⟨h', a, cap, q, rfl, hr, q8⟩⟩
          · exact absurd h0 q
          · cases q
          · cases q
            exact absurd q8 h8
    · refine ⟨[], c, by decide, fun v e w' q => ?_⟩
      rcases q with ⟨_, rfl⟩ | ⟨q, _⟩
      · exact ⟨none, 0, rfl, ⟨Nat.le_refl _, by decide, fun _ => ⟨rfl, rfl⟩, .inl rfl⟩⟩
      · exact absurd q h0
  obtain ⟨h, x, h8, hk⟩ := key
  have hkH : Hid (∀ (v : World) e w', NdQ v c r e w' → ∃ a cap, e = .returned (.tuple #[.slice a h.length cap, .int .i64 x]) ∧ Rows w' 7 a cap (h.map Cl.cells)) := hk
  have h8H : Hid (h.length ≤ 8) := h8
  clear hk h8
  go_enter Try.func5, Try.ntmps5
  go_wp2_with (first
    | (go_at_call 22; (with_reducible refine c1.mono ?_); rintro e w1 ⟨hq, hb⟩; (obtain ⟨a1, k1, rfl, hr1⟩ := hkH.out _ _ _ hq); (have hB1 : Hid (Below w.heap.size w w1 ∧ Rows w1 7 a1 k1 (h.map Cl.cells)) := ⟨hb, hr1⟩); clear hq hb hr1 c1)
    | (go_at_call 23; (with_reducible refine (c2 _ hB1.out.1).mono ?_); rintro e w2 ⟨hq, hb⟩; (obtain ⟨a2, k2, rfl, hr2⟩ := hkH.out _ _ _ hq); (have hB2 : Hid (Below w.heap.size w w2 ∧ Rows w2 7 a1 k1 (h.map Cl.cells) ∧ Rows w2 7 a2 k2 (h.map Cl.cells)) := ⟨bthen hB1.out.1 hb, hB1.out.2.later hb, hr2⟩); clear hq hb hr2 c2)
    | (go_at_call 24; (with_reducible refine (sameH_any h a1 a2 k1 k2 hB2.out.2.1 hB2.out.2.2 h8H.out).mono ?_); rintro e w3 ⟨rfl, hb⟩; (have hB3 : Hid (Below w.heap.size w w3) := bthen hB2.out.1 hb); clear hb)
    | (go_at_call 13; (with_reducible refine (cS _).mono ?_); rintro e w9 ⟨rfl, hb⟩; (have hB9 : Hid (Below w.heap.size w w9) := bthen hB3.out hb); clear hb))
  go_ret
  exact ⟨rfl, hB9.out⟩
end
end Go.Proofs.Ytklpifammbnldaa.pg
