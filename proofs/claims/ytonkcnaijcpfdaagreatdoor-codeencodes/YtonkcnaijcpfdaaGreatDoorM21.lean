/- Contracts of package octet's Fixed and of the document's own. -/
import Derived.Test.YtonkcnaijcpfdaaGreatDoorM10
import Derived.Handy
import Derived.Test.YtonkcnaijcpfdaaGreatDoorM20
namespace Go.Proofs.YtonkcnaijcpfdaaGreatDoor.octet
open Go.ChangeShapes Go.WideShapes Go.ChangeAt Go.RowKit
open wrapped
set_option linter.unusedVariables false
theorem fixed_any (x : Int) (h0 : 0 ≤ x) (h1 : x < 4294967296) (w : World) : Calls Tryz.prog 19 #[.int .u32 x] w fun e w' => e = .returned (.agg #[.int .u8 (x / 16777216), .int .u8 (x / 65536 % 256), .int .u8 (x / 256 % 256), .int .u8 (x % 256)]) ∧ Below w.heap.size w w' := by
  go_enter Tryz.func19, Tryz.ntmps19
  go_wp2
  go_rounds 5
  refine bodyPost_ret (v := .agg #[.int .u8 (x / 16777216), .int .u8 (x / 65536 % 256), .int .u8 (x / 256 % 256), .int .u8 (x % 256)]) (by simp [results, Tryz.results19, go_sem]) rfl ⟨rfl, ?_⟩
  go_grown
theorem reffixed_any (x : Int) (h0 : 0 ≤ x) (h1 : x < 4294967296) (w : World) : Calls Tryz.prog 39 #[.int .u32 x] w fun e w' => e = .returned (.agg #[.int .u8 (x / 16777216), .int .u8 (x / 65536 % 256), .int .u8 (x / 256 % 256), .int .u8 (x % 256)]) ∧ Below w.heap.size w w' := by
  go_enter Tryz.func39, Tryz.ntmps39
  go_wp2
  refine bodyPost_ret (v := .agg #[.int .u8 (x / 16777216), .int .u8 (x / 65536 % 256), .int .u8 (x / 256 % 256), .int .u8 (x % 256)]) (by simp [results, Tryz.results39, go_sem]) rfl ⟨rfl, ?_⟩
  go_grown
end Go.Proofs.YtonkcnaijcpfdaaGreatDoor.octet
/- The reader of package code in memory: what it reads lies there as a program; how the bytes begin, their sum, their end. -/
namespace Go.Proofs.YtonkcnaijcpfdaaGreatDoor.pg
open Go.ChangeShapes Go.WideShapes Go.ChangeAt Go.RowKit
set_option linter.unusedVariables false
set_option linter.unusedSimpArgs false
set_option maxRecDepth 100000
theorem many_all {α : Type} {rd : RS → α × RS} {p : α → Prop} (h : ∀ s, p (rd s).1) (m : Nat) (s : RS) : ∀ x ∈ (rdMany rd m s).1, p x := by
  induction m with
  | zero => intro x hx; simp [rdMany] at hx
  | succ m ih =>
    intro x hx
    simp only [rdMany, List.mem_append, List.mem_singleton] at hx
    rcases hx with hx | rfl
    · exact ih x hx
    · exact h _
section
variable {f : Nat → Nat} {n : Nat}
theorem i64_num (hf : ∀ i, f i < 256) (s : RS) : I64 (rdNum f n s).1 := by have := rdNum_range hf (n := n) s; unfold I64; omega
theorem i64_num1 (hf : ∀ i, f i < 256) (s : RS) : I64 ((rdNum f n s).1 - 1) := by have := rdNum_range hf (n := n) s; unfold I64; omega
theorem i64_zero : I64 0 := by unfold I64; omega
theorem wf_cas (hf : ∀ i, f i < 256) (s : RS) : (rdCas f n s).1.wf := ⟨i64_num hf _, i64_num1 hf _, i64_num hf _⟩
theorem wf_op (hf : ∀ i, f i < 256) (l : Int) (s : RS) : I64 (rdOp f n l s).1 := by
  unfold rdOp
  split
  · exact i64_zero
  · split
    · exact i64_num1 hf _
    · split
      · exact rdS_range hf _
      · exact i64_num hf _
theorem wf_ins (hf : ∀ i, f i < 256) (s : RS) : (rdIns f n s).1.wf := by
  unfold rdIns
  by_cases h : formOf (rdNum f n s).1 = []
  · simp only [if_pos h]; exact ⟨i64_zero, i64_zero, i64_zero, i64_zero, i64_zero⟩
  · simp only [if_neg h]; exact ⟨i64_num hf _, wf_op hf _ _, wf_op hf _ _, wf_op hf _ _, wf_op hf _ _⟩
abbrev selWf (s : Sel) : Prop := (∀ x ∈ s.cases, x.wf) ∧ I64 s.els
abbrev fnWf (g : Fn) : Prop := I64 g.params ∧ I64 g.regs ∧ (∀ x ∈ g.code, x.wf) ∧ ∀ s ∈ g.sels, selWf s
abbrev prWf (P : Pr) : Prop := (∀ x ∈ P.vars, I64 x.init) ∧ I64 P.locks ∧ (∀ x ∈ P.chans, I64 x) ∧ ∀ g ∈ P.fns, fnWf g
theorem wf_sel (hf : ∀ i, f i < 256) (s : RS) : selWf (rdSel f n s).1 := ⟨many_all (wf_cas hf) _ _, i64_num1 hf _⟩
theorem wf_fn (hf : ∀ i, f i < 256) (s : RS) : fnWf (rdFn f n s).1 := ⟨i64_num hf _, i64_num hf _, many_all (wf_ins hf) _ _, many_all (wf_sel hf) _ _⟩
theorem wf_pr (hf : ∀ i, f i < 256) (s : RS) : prWf (rdPr f n s).1 := ⟨many_all (p := fun x : Vr => I64 x.init) (fun s => rdS_range hf _) _ _, i64_num hf _, many_all (i64_num hf) _ _, many_all (wf_fn hf) _ _⟩
end
theorem own_lies {w : World} {lo : Nat} {m : MPr} (h : m.own w lo) (hw : prWf m.pr) : m.lies w := by
  obtain ⟨o1, o2, o3, o4⟩ := h
  obtain ⟨w1, w2, w3, w4⟩ := hw
  refine ⟨own_rows o1 (len2 _), own_rows o2 (len1 _), own_rows o3 (len4f _), w1, w2, w3, fun g hg => ?_⟩
  obtain ⟨p1, p2, p3⟩ := o4 g hg
  obtain ⟨q1, q2, q3, q4⟩ := w4 g.fn (List.mem_map_of_mem hg)
  exact ⟨own_rows p1 (len5 _), own_rows p2 (len2s _), q3, fun s hs => ⟨own_rows (p3 s hs) (len4 _), (q4 s.sel (List.mem_map_of_mem hs)).1, (q4 s.sel (List.mem_map_of_mem hs)).2⟩, q1, q2⟩
/-- What the magic leaves. -/
abbrev magB : List Nat := [83, 67, 82, 66, 1]
def hasB (f : Nat → Nat) (n k : Nat) (L : List Nat) : Bool := decide (k + L.length ≤ n) && (List.range L.length).all fun i => f (k + i) == L.getD i 0
theorem hasB_iff {f : Nat → Nat} {n k : Nat} {L : List Nat} : hasB f n k L = true ↔ Has f n k L := by
  unfold hasB Has
  rw [Bool.and_eq_true, decide_eq_true_eq, List.all_eq_true]
  refine and_congr_right fun _ => ⟨fun h i b hb => ?_, fun h i hi => ?_⟩
  · have hi := (List.getElem?_eq_some_iff.mp hb).1
    have := h i (List.mem_range.mpr hi)
    rw [beq_iff_eq, List.getD_eq_getElem?_getD, hb] at this
    exact this
  · rw [List.mem_range] at hi
    rw [beq_iff_eq]
    exact h i _ (by rw [List.getD_eq_getElem?_getD, List.getElem?_eq_getElem hi]; rfl)
def rdMag (f : Nat → Nat) (n : Nat) : RS := ⟨if n < 5 then 0 else 5, if hasB f n 0 magB = true then 0 else 40, 0⟩
theorem str_mag (f : Nat → Nat) (hf : ∀ i, f i < 256) (n : Nat) (hn : 5 ≤ n) : octet.strOf f 5 = ⟨#[83, 67, 82, 66, 1]⟩ ↔ Has f n 0 magB := by
  have h1 := octet.sameB_iff f (fun i => magB.getD i 0) 5 5 hf (fun i => by
    by_cases h : i < 5
    · have : ∀ i : Fin 5, magB.getD i.val 0 < 256 := by decide
      exact this ⟨i, h⟩
    · rw [List.getD_eq_getElem?_getD, List.getElem?_eq_none (by show 5 ≤ i; omega)]; show 0 < 256; decide)
  have h2 : octet.strOf (fun i => magB.getD i 0) 5 = ⟨#[83, 67, 82, 66, 1]⟩ := rfl
  have h3 : octet.sameB f 5 (fun i => magB.getD i 0) 5 = true ↔ octet.strOf f 5 = ⟨#[83, 67, 82, 66, 1]⟩ := by
    unfold octet.sameB
    rw [beq_iff_eq, h2]
    constructor
    · intro h
      apply ByteArray.ext
      rw [ByteArray.toList_eq, ByteArray.toList_eq] at h
      exact Array.toList_inj.mp h
    · intro h; rw [h]
  rw [← h3, h1]
  constructor
  · rintro ⟨_, h⟩
    refine ⟨by show 0 + 5 ≤ n; omega, fun i b hb => ?_⟩
    have hi : i < 5 := (List.getElem?_eq_some_iff.mp hb).1
    rw [Nat.zero_add, h i hi, List.getD_eq_getElem?_getD, hb]
    rfl
  · rintro ⟨_, h⟩
    refine ⟨rfl, fun i hi => ?_⟩
    have := h i (magB.getD i 0) (by
      have : ∀ i : Fin 5, magB[i.val]? = some (magB.getD i.val 0) := by decide
      exact this ⟨i, hi⟩)
    rwa [Nat.zero_add] at this
section
variable {w w' : World} {r q bc n : Nat} {ba : Option Addr} {f : Nat → Nat} {s : RS}
set_option maxHeartbeats 4000000 in
theorem magic_r (h : RdS w r q ba bc n f ⟨0, 0, 0⟩) (hba : n = 0 ∧ ba = none ∨ ∃ g, ba = some ⟨g, 0, none⟩ ∧ ∃ B, octet.Owns w B g n bc f ∧ n ≤ bc ∧ (bc : Int) ≤ 9223372036854775807) :
    Rr r q ba bc n f 41 #[.pointer (some ⟨r, 0, none⟩)] w (.tuple #[]) (rdMag f n) := by
  have c0 := whole_cell h.bx 0 _ rfl
  have hnn := h.nn
  unfold rdMag
  by_cases hn : n < 5
  · rw [if_pos hn, if_neg (fun hh => by have := (hasB_iff.mp hh).1; simp at this; omega)]
    have cT := octet.take_none q ba n bc 0 5 w h.rd (by omega) (by omega) (by omega) (by omega) 10 (.inr (.inl ⟨by omega, by omega, rfl⟩))
    have cv := octet.conv_any w none 0 0 (fun _ => 0) (row_none w)
    have hv : octet.strOf (fun _ => 0) 0 = ⟨#[]⟩ := rfl
    rw [hv] at cv
    have cF : Calls Tryz.prog 63 #[.pointer (some ⟨r, 0, none⟩), .int .i64 40] w _ := fail_r h 40
    unfold Rr
    clear h hn
    go_enter Tryz.func41, Tryz.ntmps41
    go_wp2_with (first
      | (go_at_call 62; with_reducible refine cT.mono ?_; rintro e w1 ⟨rfl, hw⟩; replace hw := hw.symm; subst hw)
      | (go_at_call 63; with_reducible refine cF.mono ?_; rintro e w2 ⟨rfl, h2, f2⟩))
    go_end0
    exact ⟨rfl, h2, f2⟩
  · rw [if_neg hn]
    rcases hba with ⟨h0, _⟩ | ⟨g, rfl, B, ho, hc1, hc2⟩
    · omega
    · have cT : Calls Tryz.prog 62 #[.pointer (some ⟨q, 0, none⟩), .int .i64 5] w _ := octet.take_some q B g n bc 0 5 f w h.rd ho (by omega) (by omega) hc1 hc2 (by omega)
      have hfb := h.row.2.1
      have hS := str_mag f hfb n (by omega)
      have hK : ∀ w1, Below w.heap.size w w1 → RdS (w1.setCell ⟨q, 1, none⟩ (.int .i64 ((0 + 5 : Nat) : Int))) r q (some ⟨g, 0, none⟩) bc n f ⟨5, 0, 0⟩ ∧ Fr r q w (w1.setCell ⟨q, 1, none⟩ (.int .i64 ((0 + 5 : Nat) : Int))) := fun w1 hb => ⟨(h.later hb).setK 5 (by omega), (Fr.of hb).trans (Fr.setq r q w1 1 _)⟩
      have hcv : ∀ w1, octet.Owns w1 w.heap.size w.heap.size 5 5 (fun i => f (0 + i)) → (convert 28 9 (.slice (some ⟨w.heap.size, 0, none⟩) 5 5)).run Tryz.prog (w1.setCell ⟨q, 1, none⟩ (.int .i64 ((0 + 5 : Nat) : Int))) = .ok (.string (octet.strOf f 5)) (w1.setCell ⟨q, 1, none⟩ (.int .i64 ((0 + 5 : Nat) : Int))) := fun w1 ho1 => by
        have hr1 := octet.Owns.row ho1 (by omega) (fun i => hfb _)
        have e : (fun i => f (0 + i)) = f := funext fun i => by rw [Nat.zero_add]
        rw [e] at hr1
        exact octet.conv_any _ _ 5 5 f (row_keep hr1 fun b hb => heap_setCell_other _ _ _ _ (by simp [blk] at hb; have := h.ltq; show b ≠ q; omega))
      unfold Rr
      by_cases hm : hasB f n 0 magB = true
      · rw [if_pos hm]
        rw [hS.mpr (hasB_iff.mp hm)] at hcv
        clear h hS
        go_enter Tryz.func41, Tryz.ntmps41
        go_wp2_with (go_at_call 62; (with_reducible refine cT.mono ?_); rintro e w1 ⟨rfl, w2, hb2, ho2, hw⟩; obtain ⟨h2, f2⟩ := hK w2 hb2; (have cv := hcv w2 ho2); rw [← hw] at cv h2 f2; clear hw ho2 hb2 hcv hK)
        go_end0
        exact ⟨rfl, h2, f2⟩
      · rw [if_neg hm]
        have hne : ¬ octet.strOf f 5 = ⟨#[83, 67, 82, 66, 1]⟩ := fun e => hm (hasB_iff.mpr (hS.mp e))
        have hn2 : ((octet.strOf f 5).toList == [83, 67, 82, 66, 1]) = false := by
          rw [beq_eq_false_iff_ne]
          intro e
          apply hne
          apply ByteArray.ext
          rw [ByteArray.toList_eq] at e
          exact Array.toList_inj.mp e
        have cF : ∀ w1, RdS w1 r q (some ⟨g, 0, none⟩) bc n f ⟨5, 0, 0⟩ → Calls Tryz.prog 63 #[.pointer (some ⟨r, 0, none⟩), .int .i64 40] w1 _ := fun w1 h1 => fail_r h1 40
        generalize octet.strOf f 5 = S at *
        clear h hS
        go_enter Tryz.func41, Tryz.ntmps41
        go_wp2_with (first
          | (go_at_call 62; (with_reducible refine cT.mono ?_); rintro e w1 ⟨rfl, w2, hb2, ho2, hw⟩; obtain ⟨h2, f2⟩ := hK w2 hb2; (have cv := hcv w2 ho2); rw [← hw] at cv h2 f2; clear hw ho2 hb2 hcv hK)
          | (go_at_call 63; with_reducible refine (cF _ h2).mono ?_; rintro e w3 ⟨rfl, h3, f3⟩))
        go_end0
        exact ⟨rfl, h3, f2.trans f3⟩
theorem end_r (h : RdS w r q ba bc n f s) : Rr r q ba bc n f 44 #[.pointer (some ⟨r, 0, none⟩)] w (.tuple #[]) (if s.e = 0 then ⟨s.k, octet.endOf n s.k, s.k⟩ else s) := by
  unfold Rr
  by_cases he : s.e = 0
  · rw [if_pos he]
    have cB := begin_yes h he
    have hA := h.setA s.k
    have hFA := Fr.setr r q w 2 (.int .i64 (s.k : Int))
    generalize w.setCell ⟨r, 2, none⟩ (.int .i64 (s.k : Int)) = W at *
    have c0 := whole_cell hA.bx 0 _ rfl
    have cE := octet.end_any q ba n bc s.k W hA.rd h.le (by have := h.nn; omega)
    have cF := fail_r hA (octet.endOf n s.k)
    unfold RS.fail at cF
    rw [show (⟨s.k, s.e, s.k⟩ : RS).e = 0 from he, if_pos rfl] at cF
    unfold Rr at cF
    clear h hA
    go_enter Tryz.func44, Tryz.ntmps44
    go_wp2_with (first
      | (go_at_call 70; with_reducible refine cB.mono ?_; rintro e w' ⟨rfl, hw⟩; replace hw := hw.symm; subst hw)
      | (go_at_call 72; with_reducible refine cE.mono ?_; rintro e w' ⟨rfl, hw⟩; replace hw := hw.symm; subst hw)
      | (go_at_call 63; with_reducible refine cF.mono ?_; rintro e w3 ⟨rfl, h3, f3⟩))
    go_end0
    exact ⟨rfl, h3, hFA.trans f3⟩
  · rw [if_neg he]
    have cB := begin_no h he
    go_enter Tryz.func44, Tryz.ntmps44
    go_wp2_with (go_at_call 70; with_reducible refine cB.mono ?_; rintro e w' ⟨rfl, hw⟩; replace hw := hw.symm; subst hw)
    go_end0
    exact ⟨rfl, h, Fr.refl _ _ _⟩
end
end Go.Proofs.YtonkcnaijcpfdaaGreatDoor.pg
/- The reader of package code in memory: the sum. -/
namespace Go.Proofs.YtonkcnaijcpfdaaGreatDoor.pg
open Go.ChangeShapes Go.WideShapes Go.ChangeAt Go.RowKit
set_option linter.unusedVariables false
set_option linter.unusedSimpArgs false
set_option maxRecDepth 100000
theorem equal_any (a b : Option Addr) (n m c d : Nat) (f g : Nat → Nat) (w : World) (h1 : octet.Row w a n f) (h2 : octet.Row w b m g) (r : Bool) (hr : octet.sameB f n g m = r) :
    Calls Tryz.prog 71 #[.slice a n c, .slice b m d] w fun e w' => e = .returned (.bool r) ∧ w' = w := by
  have e1 := octet.conv_any w a n c f h1
  have e2 := octet.conv_any w b m d g h2
  have hr2 : ((octet.strOf f n).toList == (octet.strOf g m).toList) = r := hr
  generalize octet.strOf f n = A at e1 hr2
  generalize octet.strOf g m = B at e2 hr2
  clear hr h1 h2
  go_enter Tryz.func71, Tryz.ntmps71
  go_wp2
  go_ret
  exact ⟨rfl, rfl⟩
def sumB (x : Nat) : List Nat := [x / 16777216, x / 65536 % 256, x / 256 % 256, x % 256]
def sumOf (f : Nat → Nat) (k : Nat) : Nat := 4294967295 - octet.crc f k
def rdSum (f : Nat → Nat) (n : Nat) (s : RS) : RS := if s.e = 0 then (if n < s.k + 4 then ⟨s.k, 10, s.k⟩ else ⟨s.k + 4, if hasB f n s.k (sumB (sumOf f s.k)) = true then 0 else 41, s.k⟩) else s
def rdEnd (n : Nat) (s : RS) : RS := if s.e = 0 then ⟨s.k, octet.endOf n s.k, s.k⟩ else s
theorem row_pre {w : World} {a : Option Addr} {n k : Nat} {f : Nat → Nat} (h : octet.Row w a n f) (hk : k ≤ n) : octet.Row w a k f := by
  refine ⟨by have := h.1; omega, h.2.1, ?_⟩
  rcases h.2.2 with h0 | ⟨b, off, ha, hc⟩
  · exact .inl (by omega)
  · exact .inr ⟨b, off, ha, fun i hi => hc i (by omega)⟩
theorem sumB_lt (x : Nat) (hx : x < 4294967296) (i : Nat) : (sumB x).getD i 0 < 256 := by
  unfold sumB
  match i with
  | 0 => show x / 16777216 < 256; omega
  | 1 => show x / 65536 % 256 < 256; omega
  | 2 => show x / 256 % 256 < 256; omega
  | 3 => show x % 256 < 256; omega
  | i + 4 => show 0 < 256; omega
abbrev objSum (x : Nat) : Obj := .cells #[.int .u8 ((x : Int) / 16777216), .int .u8 ((x : Int) / 65536 % 256), .int .u8 ((x : Int) / 256 % 256), .int .u8 ((x : Int) % 256)] 63
theorem row_sum {w : World} {A x : Nat} (hx : x < 4294967296) (h : w.heap[A]? = some (objSum x)) : octet.Row w (some ⟨A, 0, none⟩) 4 (fun i => (sumB x).getD i 0) := by
  refine ⟨by omega, fun i => sumB_lt x hx i, .inr ⟨A, 0, rfl, fun i hi => ?_⟩⟩
  rw [Nat.zero_add]
  have hi4 : i = 0 ∨ i = 1 ∨ i = 2 ∨ i = 3 := by omega
  rcases hi4 with rfl | rfl | rfl | rfl
  · exact whole_cell h 0 _ rfl
  · exact whole_cell h 1 _ rfl
  · exact whole_cell h 2 _ rfl
  · exact whole_cell h 3 _ rfl
theorem same_sum (f : Nat → Nat) (hf : ∀ i, f i < 256) (n k x : Nat) (hx : x < 4294967296) (hk : k + 4 ≤ n) : octet.sameB (fun i => f (k + i)) 4 (fun i => (sumB x).getD i 0) 4 = hasB f n k (sumB x) := by
  have h1 := octet.sameB_iff (fun i => f (k + i)) (fun i => (sumB x).getD i 0) 4 4 (fun i => hf _) (fun i => sumB_lt x hx i)
  have h2 : octet.sameB (fun i => f (k + i)) 4 (fun i => (sumB x).getD i 0) 4 = true ↔ hasB f n k (sumB x) = true := by
    rw [h1, hasB_iff]
    constructor
    · rintro ⟨_, h⟩
      refine ⟨hk, fun i b hb => ?_⟩
      have hi : i < 4 := (List.getElem?_eq_some_iff.mp hb).1
      rw [h i hi, List.getD_eq_getElem?_getD, hb]
      rfl
    · rintro ⟨_, h⟩
      refine ⟨rfl, fun i hi => ?_⟩
      have hl : i < (sumB x).length := hi
      exact h i _ (by rw [List.getD_eq_getElem?_getD, List.getElem?_eq_getElem hl]; rfl)
  cases h3 : hasB f n k (sumB x) with
  | true => exact h2.mpr h3
  | false =>
    cases h4 : octet.sameB (fun i => f (k + i)) 4 (fun i => (sumB x).getD i 0) 4 with
    | false => rfl
    | true => rw [h2.mp h4] at h3; exact h3
section
variable {w w' : World} {r q bc n : Nat} {ba : Option Addr} {f : Nat → Nat} {s : RS}
set_option maxHeartbeats 4000000 in
theorem sum_r (h : RdS w r q ba bc n f s) (hba : n = 0 ∧ ba = none ∨ ∃ g, ba = some ⟨g, 0, none⟩ ∧ n ≤ bc ∧ (bc : Int) ≤ 9223372036854775807 ∧ ∃ B, octet.Owns w B g n bc f)
    (a : Option Addr) (c : Nat) (hr : octet.Row w a n f) (hbl : n = 0 ∨ ∀ b ∈ blk a, b ≠ r ∧ b ≠ q ∧ b < w.heap.size) (hnc : n ≤ c) (hc : (c : Int) ≤ 9223372036854775807) (ha : a = none → c = 0) :
    Rr r q ba bc n f 43 #[.pointer (some ⟨r, 0, none⟩), .slice a n c] w (.tuple #[]) (rdSum f n s) := by
  unfold rdSum
  by_cases he : s.e = 0
  · rw [if_pos he]
    have cB := begin_yes h he
    have hA := h.setA s.k
    have hFA := Fr.setr r q w 2 (.int .i64 (s.k : Int))
    have hfb := h.row.2.1
    have hltr := h.ltr
    have hltq := h.ltq
    have hkn := h.le
    have hnn := h.nn
    have hWs : (w.setCell ⟨r, 2, none⟩ (.int .i64 (s.k : Int))).heap.size = w.heap.size := World.size_setCell _ _ _
    have hoW : ∀ B g, octet.Owns w B g n bc f → ba = some ⟨g, 0, none⟩ → octet.Owns (w.setCell ⟨r, 2, none⟩ (.int .i64 (s.k : Int))) B g n bc f := fun B g ho e => by
      have hg : g ≠ r := (h.bl g (by rw [e]; simp [blk])).1
      refine ⟨ho.1, ?_⟩
      rcases ho.2 with q | ⟨g', cap', cur, q, hb, hh, hrest⟩
      · exact .inl q
      · refine .inr ⟨g', cap', cur, q, hb, ?_, hrest⟩
        have e2 : g = g' := by simp only [Value.slice.injEq, Option.some.injEq, Addr.mk.injEq] at q; exact q.1.1
        exact (heap_setCell_other _ _ _ _ (by show g' ≠ r; omega)).trans hh
    generalize w.setCell ⟨r, 2, none⟩ (.int .i64 (s.k : Int)) = W at *
    have c0 := whole_cell hA.bx 0 _ rfl
    have hX : Hid (sumOf f s.k = 4294967295 - octet.crc f s.k) := rfl
    have hXb : sumOf f s.k < 4294967296 := by have := hX.out; omega
    have hrow : ∀ wx, Fr r q w wx → octet.Row wx a s.k f := fun wx hx => by
      rcases hbl with h0 | hbl
      · exact ⟨by omega, hr.2.1, .inl (by omega)⟩
      · exact row_pre (row_keep hr fun b hb => hx.block b (hbl b hb).2.2 (hbl b hb).1 (hbl b hb).2.1) hkn
    have cS : ∀ wx, Fr r q w wx → Calls Tryz.prog 20 #[.slice a s.k c] wx fun e w' => e = .returned (.int .u32 ((sumOf f s.k : Nat) : Int)) ∧ w' = wx := fun wx hx => octet.sum_any a s.k c f wx (hrow wx hx)
    have cX : ∀ wx, Calls Tryz.prog 19 #[.int .u32 ((sumOf f s.k : Nat) : Int)] wx _ := fun wx => octet.fixed_any ((sumOf f s.k : Nat) : Int) (by omega) (by omega) wx
    have hkI : (s.k : Int) ≤ (c : Int) := by omega
    have hkc : Hid (s.k ≤ c) := by show _ ≤ _; omega
    by_cases hn : n < s.k + 4
    · rw [if_pos hn]
      have cT : Calls Tryz.prog 62 #[.pointer (some ⟨q, 0, none⟩), .int .i64 4] W _ := octet.take_none q ba n bc s.k 4 W hA.rd hkn (by omega) (by omega) (by omega) 10 (.inr (.inl ⟨by omega, by omega, rfl⟩))
      have cF := fail_r hA 10
      have e1 : (⟨s.k, s.e, s.k⟩ : RS).fail 10 = ⟨s.k, 10, s.k⟩ := by unfold RS.fail; rw [if_pos he]
      rw [e1] at cF
      have cF2 : ∀ wx, RdS wx r q ba bc n f ⟨s.k, 10, s.k⟩ → Calls Tryz.prog 63 #[.pointer (some ⟨r, 0, none⟩), .int .i64 41] wx _ := fun wx hx => fail_r hx 41
      have cE : ∀ wx : World, Calls Tryz.prog 71 #[.slice none 0 0, .slice (some ⟨wx.heap.size, 0, none⟩) 4 4] (wx.alloc (objSum (sumOf f s.k))) _ := fun wx => equal_any none (some ⟨wx.heap.size, 0, none⟩) 0 4 0 4 (fun _ => 0) _ _ (row_none _) (row_sum hXb (heap_alloc_new wx _)) false (by
        cases h4 : octet.sameB (fun _ => 0) 0 (fun i => (sumB (sumOf f s.k)).getD i 0) 4 with
        | false => rfl
        | true => have := ((octet.sameB_iff _ _ 0 4 (fun _ => by show 0 < 256; decide) (fun i => sumB_lt _ hXb i)).mp h4).1; omega)
      unfold Rr at cF ⊢
      generalize sumOf f s.k = X at *
      generalize s.k = K at *
      clear h hA he hn hoW hba hrow e1
      go_enter Tryz.func43, Tryz.ntmps43
      go_wp2_with (first
        | (go_at_call 70; (with_reducible refine cB.mono ?_); rintro e w' ⟨rfl, hw⟩; replace hw := hw.symm; subst hw)
        | (go_at_call 62; (with_reducible refine cT.mono ?_); rintro e w' ⟨rfl, hw⟩; replace hw := hw.symm; subst hw)
        | (go_at_call 63; (with_reducible refine cF.mono ?_); rintro e w1 ⟨rfl, h1, f1⟩; (have f1s := hFA.trans f1); (have d2 := whole_cell h1.bx 2 _ rfl); clear cF)
        | (go_at_call 20; (with_reducible refine (cS _ f1s).mono ?_); rintro e w' ⟨rfl, hw⟩; replace hw := hw.symm; subst hw)
        | (go_at_call 19; (with_reducible refine (cX _).mono ?_); rintro e w2 ⟨rfl, hb2⟩; (have h2 : Hid (RdS (w2.alloc (objSum X)) r q ba bc n f ⟨K, 10, K⟩) := (h1.later hb2).later (boxed _ _)); (have f2 : Hid (Fr r q w (w2.alloc (objSum X))) := (f1s.trans (Fr.of hb2)).trans (Fr.of (boxed _ _))))
        | (go_at_call 71; (with_reducible refine (cE _).mono ?_); rintro e w' ⟨rfl, hw⟩; replace hw := hw.symm; subst hw)
        | (go_at_call 63; (with_reducible refine (cF2 _ h2.out).mono ?_); rintro e w3 ⟨rfl, h3, f3⟩))
      go_end0
      exact ⟨rfl, h3, f2.out.trans f3⟩
    · rw [if_neg hn]
      rcases hba with ⟨h0, _⟩ | ⟨g, hbe, hc1, hc2, B, ho⟩
      · omega
      · have hoA := hoW B g ho hbe
        subst hbe
        have cT : Calls Tryz.prog 62 #[.pointer (some ⟨q, 0, none⟩), .int .i64 4] W _ := octet.take_some q B g n bc s.k 4 f W hA.rd hoA (by omega) (by omega) hc1 hc2 (by omega)
        have hK : ∀ w1, Below W.heap.size W w1 → octet.Owns w1 W.heap.size W.heap.size 4 4 (fun i => f (s.k + i)) → RdS (w1.setCell ⟨q, 1, none⟩ (.int .i64 ((s.k + 4 : Nat) : Int))) r q (some ⟨g, 0, none⟩) bc n f ⟨s.k + 4, 0, s.k⟩ ∧ Fr r q w (w1.setCell ⟨q, 1, none⟩ (.int .i64 ((s.k + 4 : Nat) : Int))) ∧ octet.Row (w1.setCell ⟨q, 1, none⟩ (.int .i64 ((s.k + 4 : Nat) : Int))) (some ⟨W.heap.size, 0, none⟩) 4 (fun i => f (s.k + i)) ∧ W.heap.size < (w1.setCell ⟨q, 1, none⟩ (.int .i64 ((s.k + 4 : Nat) : Int))).heap.size := fun w1 hb ho1 => by
          have q1 := (hA.later hb).setK (s.k + 4) (by omega)
          rw [show (⟨s.k, s.e, s.k⟩ : RS).e = 0 from he] at q1
          refine ⟨q1, (hFA.trans (Fr.of hb)).trans (Fr.setq r q w1 1 _), ?_, ?_⟩
          · have hr1 := octet.Owns.row ho1 (by omega) (fun i => hfb _)
            exact row_keep hr1 fun b hb => heap_setCell_other _ _ _ _ (by simp [blk] at hb; show b ≠ q; omega)
          · rw [World.size_setCell]; exact octet.Owns.block ho1
        have cF : ∀ wx, RdS wx r q (some ⟨g, 0, none⟩) bc n f ⟨s.k + 4, 0, s.k⟩ → Calls Tryz.prog 63 #[.pointer (some ⟨r, 0, none⟩), .int .i64 0] wx _ := fun wx hx => fail_r hx 0
        have cF2 : ∀ wx, RdS wx r q (some ⟨g, 0, none⟩) bc n f ⟨s.k + 4, 0, s.k⟩ → Calls Tryz.prog 63 #[.pointer (some ⟨r, 0, none⟩), .int .i64 41] wx _ := fun wx hx => fail_r hx 41
        have cE : ∀ wx : World, octet.Row wx (some ⟨W.heap.size, 0, none⟩) 4 (fun i => f (s.k + i)) → Calls Tryz.prog 71 #[.slice (some ⟨W.heap.size, 0, none⟩) 4 4, .slice (some ⟨wx.heap.size, 0, none⟩) 4 4] (wx.alloc (objSum (sumOf f s.k))) _ := fun wx hx => equal_any (some ⟨W.heap.size, 0, none⟩) (some ⟨wx.heap.size, 0, none⟩) 4 4 4 4 (fun i => f (s.k + i)) _ _ (hx.later (boxed _ _)) (row_sum hXb (heap_alloc_new wx _)) _ (same_sum f hfb n s.k _ hXb (by omega))
        have hWr : Hid (W.heap.size ≠ r ∧ W.heap.size ≠ q) := by show _ ∧ _; omega
        have hrz : Hid ((⟨s.k + 4, 0, s.k⟩ : RS).fail 0 = ⟨s.k + 4, 0, s.k⟩) := rfl
        have hrz2 : Hid ((⟨s.k + 4, 0, s.k⟩ : RS).fail 41 = ⟨s.k + 4, 41, s.k⟩) := rfl
        have hFF : Hid (∀ j : Nat, (fun i => f (s.k + i)) j = f (s.k + j)) := fun j => rfl
        unfold Rr
        rw [hWs] at cT cE hK
        have hWr2 : Hid (w.heap.size ≠ r ∧ w.heap.size ≠ q) := by show _ ∧ _; omega
        clear hWs hWr
        rw [hrz.out] at cF
        rw [hrz2.out] at cF2
        generalize sumOf f s.k = X at *
        generalize (fun i => f (s.k + i)) = FK at *
        clear hFF
        generalize s.k = K at *
        clear h hA he hn hoW hoA ho hrow hrz hrz2 hXb hX
        by_cases hm : hasB f n K (sumB X) = true
        · rw [if_pos hm]
          rw [hm] at cE
          go_enter Tryz.func43, Tryz.ntmps43
          go_wp2_with (first
            | (go_at_call 70; (with_reducible refine cB.mono ?_); rintro e w' ⟨rfl, hw⟩; replace hw := hw.symm; subst hw)
            | (go_at_call 62; (with_reducible refine cT.mono ?_); rintro e w1 ⟨rfl, w2, hb2, ho2, hw⟩; obtain ⟨h2, f2, r2, l2⟩ := hK w2 hb2 ho2; rw [← hw] at h2 f2 r2 l2; clear hw ho2 hb2 hK)
            | (go_at_call 63; (with_reducible refine (cF _ h2).mono ?_); rintro e w3 ⟨rfl, h3, f3⟩; (have f3s := f2.trans f3); (have r3 : octet.Row w3 (some ⟨w.heap.size, 0, none⟩) 4 FK := row_keep r2 fun b hb => f3.block b (by simp [blk] at hb; omega) (by simp [blk] at hb; have := hWr2.out; omega) (by simp [blk] at hb; have := hWr2.out; omega)); (have d2 := whole_cell h3.bx 2 _ rfl); clear cF h2)
            | (go_at_call 20; (with_reducible refine (cS _ f3s).mono ?_); rintro e w' ⟨rfl, hw⟩; replace hw := hw.symm; subst hw)
            | (go_at_call 19; (with_reducible refine (cX _).mono ?_); rintro e w4 ⟨rfl, hb4⟩; (have h4 : Hid (RdS (w4.alloc (objSum X)) r q (some ⟨g, 0, none⟩) bc n f ⟨K + 4, 0, K⟩) := (h3.later hb4).later (boxed _ _)); (have f4 : Hid (Fr r q w (w4.alloc (objSum X))) := (f3s.trans (Fr.of hb4)).trans (Fr.of (boxed _ _))); (have r4 := r3.later hb4))
            | (go_at_call 71; (with_reducible refine (cE _ r4).mono ?_); rintro e w' ⟨rfl, hw⟩; replace hw := hw.symm; subst hw))
          go_end0
          exact ⟨rfl, h4.out, f4.out⟩
        · rw [if_neg hm]
          have hm2 : hasB f n K (sumB X) = false := by simpa using hm
          rw [hm2] at cE
          go_enter Tryz.func43, Tryz.ntmps43
          go_wp2_with (first
            | (go_at_call 70; (with_reducible refine cB.mono ?_); rintro e w' ⟨rfl, hw⟩; replace hw := hw.symm; subst hw)
            | (go_at_call 62; (with_reducible refine cT.mono ?_); rintro e w1 ⟨rfl, w2, hb2, ho2, hw⟩; obtain ⟨h2, f2, r2, l2⟩ := hK w2 hb2 ho2; rw [← hw] at h2 f2 r2 l2; clear hw ho2 hb2 hK)
            | (go_at_call 63; (with_reducible refine (cF _ h2).mono ?_); rintro e w3 ⟨rfl, h3, f3⟩; (have f3s := f2.trans f3); (have r3 : octet.Row w3 (some ⟨w.heap.size, 0, none⟩) 4 FK := row_keep r2 fun b hb => f3.block b (by simp [blk] at hb; omega) (by simp [blk] at hb; have := hWr2.out; omega) (by simp [blk] at hb; have := hWr2.out; omega)); (have d2 := whole_cell h3.bx 2 _ rfl); clear cF h2)
            | (go_at_call 20; (with_reducible refine (cS _ f3s).mono ?_); rintro e w' ⟨rfl, hw⟩; replace hw := hw.symm; subst hw)
            | (go_at_call 19; (with_reducible refine (cX _).mono ?_); rintro e w4 ⟨rfl, hb4⟩; (have h4 : Hid (RdS (w4.alloc (objSum X)) r q (some ⟨g, 0, none⟩) bc n f ⟨K + 4, 0, K⟩) := (h3.later hb4).later (boxed _ _)); (have f4 : Hid (Fr r q w (w4.alloc (objSum X))) := (f3s.trans (Fr.of hb4)).trans (Fr.of (boxed _ _))); (have r4 := r3.later hb4))
            | (go_at_call 71; (with_reducible refine (cE _ r4).mono ?_); rintro e w' ⟨rfl, hw⟩; replace hw := hw.symm; subst hw)
            | (go_at_call 63; (with_reducible refine (cF2 _ h4.out).mono ?_); rintro e w5 ⟨rfl, h5, f5⟩))
          go_end0
          exact ⟨rfl, h5, f4.out.trans f5⟩
  · rw [if_neg he]
    have cB := begin_no h he
    unfold Rr
    go_enter Tryz.func43, Tryz.ntmps43
    go_wp2_with (go_at_call 70; with_reducible refine cB.mono ?_; rintro e w' ⟨rfl, hw⟩; replace hw := hw.symm; subst hw)
    refine bodyPost_ret (v := .tuple #[]) ?_ rfl ⟨rfl, h, Fr.refl _ _ _⟩
    simp [results, Tryz.results43, go_sem]
end
end Go.Proofs.YtonkcnaijcpfdaaGreatDoor.pg
