/- What the notes of a trace tell: plain. -/
import Derived.Test.YtklpifammbnldaaM22
import Derived.Test.YtklpifammbnldaaM10
import Derived.Test.YtklpifammbnldaaM24
import Derived.Test.YtklpifammbnldaaM30
namespace Go.Proofs.Ytklpifammbnldaa.pg
open Go.RowKit
set_option linter.unusedVariables false
def tagD (z : Int) : Int := z / 10
def tagW (z : Int) : Int := z % 10
/-- Does an event speak of an operation? -/
def spkN (x : Ev) : Bool := x.op == 65 && (decide (10 ≤ x.tag) && (decide (x.tag ≤ 53) && (tagW x.tag == 1 || (tagW x.tag == 2 || (tagW x.tag == 3 && tagD x.tag == 5)))))
/-- The last of the first n places of which p holds, -1 if there is none. -/
def lastP (p : Nat → Bool) : Nat → Int
  | 0 => -1
  | n + 1 => if p n then (n : Int) else lastP p n
theorem lastP_spec (p : Nat → Bool) : ∀ n, (lastP p n = -1 ∧ ∀ k, k < n → p k = false) ∨ ∃ k, k < n ∧ lastP p n = (k : Int) ∧ p k = true ∧ ∀ j, k < j → j < n → p j = false
  | 0 => .inl ⟨rfl, fun k hk => absurd hk (by omega)⟩
  | n + 1 => by
    rw [lastP]
    cases hp : p n with
    | true => exact .inr ⟨n, by omega, by simp, hp, fun j h1 h2 => by omega⟩
    | false =>
      rw [if_neg (by simp)]
      rcases lastP_spec p n with ⟨h1, h2⟩ | ⟨k, h1, h2, h3, h4⟩
      · refine .inl ⟨h1, fun k hk => ?_⟩
        by_cases e : k = n
        · rw [e]; exact hp
        · exact h2 k (by omega)
      · refine .inr ⟨k, by omega, h2, h3, fun j q1 q2 => ?_⟩
        by_cases e : j = n
        · rw [e]; exact hp
        · exact h4 j q1 (by omega)
theorem lastP_same {p q : Nat → Bool} : ∀ {n : Nat}, (∀ k, k < n → p k = q k) → lastP p n = lastP q n
  | 0, _ => rfl
  | n + 1, h => by rw [lastP, lastP, h n (by omega), lastP_same fun k hk => h k (by omega)]
/-- The last operation of a goroutine, and the one that did not end. -/
def lasN (h : List Cl) (g : Int) : Int := lastP (fun k => (hf h k).go == g) h.length
def opnN (h : List Cl) (g : Int) : Int := lastP (fun k => (hf h k).go == g && (hf h k).pend) h.length
def bgC (x : Ev) (i : Nat) : Cl := ⟨x.go, tagD x.tag, if takesB (tagD x.tag) then x.vl else 0, 0, false, 2 * (i : Int), -1⟩
def enC (c : Cl) (x : Ev) (i : Nat) : Cl := ⟨c.go, c.d, c.inn, if tagW x.tag == 2 && tellsB c.d then x.vl else c.out, tagW x.tag == 3, c.bg, 2 * (i : Int)⟩
/-- What an event does to the history. -/
def noteP (i : Nat) (h : List Cl) (x : Ev) : Option (List Cl) :=
  if spkN x = false then some h
  else if tagW x.tag = 1 then (if 0 ≤ opnN h x.go ∨ 8 ≤ h.length then none else some (h ++ [bgC x i]))
  else if opnN h x.go < 0 ∨ (hf h (opnN h x.go).toNat).d ≠ tagD x.tag then none
  else some (h.set (opnN h x.go).toNat (enC (hf h (opnN h x.go).toNat) x i))
def notedP : Nat → List Cl → List Ev → Option (List Cl)
  | _, h, [] => some h
  | i, h, x :: t => match noteP i h x with
    | none => none
    | some h' => notedP (i + 1) h' t
/-- A history as notes tell it. -/
structure NInv (h : List Cl) : Prop where
  n : h.length ≤ 8
  g : ∀ k, k < h.length → 0 ≤ (hf h k).go ∧ (hf h k).go < 6
  p : ∀ k, k < h.length → (hf h k).pend = true → lasN h (hf h k).go = (k : Int)
theorem NInv.nil : NInv [] := ⟨by decide, fun k hk => absurd hk (by simp), fun k hk => absurd hk (by simp)⟩
theorem hf_app {h : List Cl} {c : Cl} {k : Nat} (hk : k < h.length) : hf (h ++ [c]) k = hf h k := by
  unfold hf
  rw [List.getD_eq_getElem?_getD, List.getD_eq_getElem?_getD, List.getElem?_append_left hk]
theorem hf_app_last {h : List Cl} {c : Cl} : hf (h ++ [c]) h.length = c := by
  unfold hf
  rw [List.getD_eq_getElem?_getD, List.getElem?_append_right (Nat.le_refl _), Nat.sub_self]; rfl
theorem hf_set {h : List Cl} {c : Cl} {o k : Nat} (ho : o < h.length) : hf (h.set o c) k = if k = o then c else hf h k := by
  unfold hf
  rw [List.getD_eq_getElem?_getD, List.getD_eq_getElem?_getD, List.getElem?_set]
  by_cases e : o = k
  · rw [if_pos e, if_pos ho, if_pos e.symm]; rfl
  · rw [if_neg e, if_neg fun q => e q.symm]
theorem las_app {h : List Cl} {c : Cl} (g : Int) : lasN (h ++ [c]) g = if c.go = g then (h.length : Int) else lasN h g := by
  unfold lasN
  rw [List.length_append, List.length_singleton, lastP, hf_app_last]
  by_cases e : c.go = g
  · rw [if_pos (by rw [beq_iff_eq]; exact e), if_pos e]
  · rw [if_neg (by rw [beq_iff_eq]; exact e), if_neg e]
    exact lastP_same fun k hk => by rw [hf_app hk]
theorem las_set {h : List Cl} {c : Cl} {o : Nat} (ho : o < h.length) (hg : c.go = (hf h o).go) (g : Int) : lasN (h.set o c) g = lasN h g := by
  unfold lasN
  rw [List.length_set]
  refine lastP_same fun k hk => ?_
  rw [hf_set ho]
  by_cases e : k = o
  · rw [if_pos e, hg, e]
  · rw [if_neg e]
theorem opn_spec {h : List Cl} (g : Int) : (opnN h g = -1 ∧ ∀ k, k < h.length → (hf h k).go = g → (hf h k).pend = false) ∨ ∃ k, k < h.length ∧ opnN h g = (k : Int) ∧ (hf h k).go = g ∧ (hf h k).pend = true := by
  rcases lastP_spec (fun k => (hf h k).go == g && (hf h k).pend) h.length with ⟨h1, h2⟩ | ⟨k, h1, h2, h3, _⟩
  · refine .inl ⟨h1, fun k hk e => ?_⟩
    have := h2 k hk
    rw [e, beq_self_eq_true, Bool.true_and] at this
    exact this
  · rw [Bool.and_eq_true, beq_iff_eq] at h3
    exact .inr ⟨k, h1, h2, h3.1, h3.2⟩
theorem las_spec {h : List Cl} (g : Int) : (lasN h g = -1 ∧ ∀ k, k < h.length → (hf h k).go ≠ g) ∨ ∃ k, k < h.length ∧ lasN h g = (k : Int) ∧ (hf h k).go = g := by
  rcases lastP_spec (fun k => (hf h k).go == g) h.length with ⟨h1, h2⟩ | ⟨k, h1, h2, h3, _⟩
  · refine .inl ⟨h1, fun k hk e => ?_⟩
    have := h2 k hk
    rw [e, beq_self_eq_true] at this
    cases this
  · rw [beq_iff_eq] at h3
    exact .inr ⟨k, h1, h2, h3⟩
/-- What open tells, by the place of the last one. -/
theorem NInv.open {h : List Cl} (v : NInv h) (g : Int) : (lasN h g = -1 ∧ opnN h g = -1) ∨ ∃ k, k < h.length ∧ lasN h g = (k : Int) ∧ (((hf h k).pend = true ∧ opnN h g = (k : Int)) ∨ ((hf h k).pend = false ∧ opnN h g = -1)) := by
  rcases las_spec (h := h) g with ⟨h1, h2⟩ | ⟨k, h1, h2, h3⟩
  · refine .inl ⟨h1, ?_⟩
    rcases opn_spec (h := h) g with ⟨q, _⟩ | ⟨k, q1, q2, q3, q4⟩
    · exact q
    · exact absurd q3 (h2 k q1)
  · refine .inr ⟨k, h1, h2, ?_⟩
    rcases opn_spec (h := h) g with ⟨q, q2⟩ | ⟨j, q1, q2, q3, q4⟩
    · exact .inr ⟨q2 k h1 h3, q⟩
    · have := v.p j q1 q4
      rw [q3, h2] at this
      have e : k = j := by omega
      subst e
      exact .inl ⟨q4, q2⟩
theorem NInv.begin {h : List Cl} (v : NInv h) {x : Ev} {i : Nat} (ho : opnN h x.go < 0) (h8 : h.length < 8) (hx : 0 ≤ x.go ∧ x.go < 6) : NInv (h ++ [bgC x i]) := by
  refine ⟨by rw [List.length_append, List.length_singleton]; omega, fun k hk => ?_, fun k hk hp => ?_⟩
  · rw [List.length_append, List.length_singleton] at hk
    by_cases e : k = h.length
    · rw [e, hf_app_last]; exact hx
    · rw [hf_app (by omega)]; exact v.g k (by omega)
  · rw [List.length_append, List.length_singleton] at hk
    rw [las_app]
    by_cases e : k = h.length
    · rw [e, hf_app_last, if_pos rfl]
    · rw [hf_app (by omega)] at hp ⊢
      have hg : (bgC x i).go ≠ (hf h k).go := fun q => by
        rcases opn_spec (h := h) x.go with ⟨_, q2⟩ | ⟨j, q1, q2, _⟩
        · rw [q2 k (by omega) q.symm] at hp; cases hp
        · omega
      rw [if_neg hg]
      exact v.p k (by omega) hp
theorem NInv.endd {h : List Cl} (v : NInv h) {x : Ev} {i o : Nat} (ho : o < h.length) : NInv (h.set o (enC (hf h o) x i)) := by
  have hn : (enC (hf h o) x i).pend = false := by
    show (2 * (i : Int) == -1) = false
    rw [beq_eq_false_iff_ne]; omega
  refine ⟨by rw [List.length_set]; exact v.n, fun k hk => ?_, fun k hk hp => ?_⟩
  · rw [List.length_set] at hk
    rw [hf_set ho]
    split
    · exact v.g o ho
    · exact v.g k hk
  · rw [List.length_set] at hk
    rw [las_set (c := enC (hf h o) x i) ho rfl]
    rw [hf_set ho] at hp ⊢
    by_cases e : k = o
    · rw [if_pos e, hn] at hp; cases hp
    · rw [if_neg e] at hp ⊢
      exact v.p k hk hp
theorem note_inv {h h' : List Cl} (v : NInv h) {x : Ev} {i : Nat} (hx : 0 ≤ x.go ∧ x.go < 6) (e : noteP i h x = some h') : NInv h' := by
  unfold noteP at e
  split at e
  · cases e; exact v
  · split at e
    · split at e
      · cases e
      · next q => cases e; exact v.begin (by omega) (by omega) hx
    · split at e
      · cases e
      · next q =>
        cases e
        rcases opn_spec (h := h) x.go with ⟨q1, _⟩ | ⟨j, q1, q2, _⟩
        · omega
        · rw [q2, Int.toNat_natCast]
          exact v.endd q1
theorem noted_drop {l : List Ev} {i : Nat} {x : Ev} (hx : l[i]? = some x) (h : List Cl) : notedP i h (l.drop i) = match noteP i h x with
    | none => none
    | some h' => notedP (i + 1) h' (l.drop (i + 1)) := by
  rw [List.drop_eq_getElem?_toList_append, hx]
  rfl
theorem tag_parts {z : Int} : (z < 10 ∨ 53 < z ∨ (10 ≤ z ∧ z ≤ 53)) := by omega
end Go.Proofs.Ytklpifammbnldaa.pg
/- What the notes of a trace tell: package linear, what it keeps and what is open. -/
namespace Go.Proofs.Ytklpifammbnldaa.pg
open Go.ChangeShapes Go.WideShapes Go.ChangeAt Go.RowKit
set_option linter.unusedVariables false
set_option linter.unusedSimpArgs false
set_option maxRecDepth 100000
attribute [local go_sem ↓] Go.wp_at_zero Go.wp_at_succ
abbrev ntA (a : Option Addr) (n c : Nat) (l : Nat → Int) : Array Value := #[.slice a n c, .int .i64 (l 0), .int .i64 (l 1), .int .i64 (l 2), .int .i64 (l 3), .int .i64 (l 4), .int .i64 (l 5)]
abbrev TN : TypeId := 86
abbrev lasF (h : List Cl) (g : Nat) : Int := lasN h (g : Int)
theorem nt_cell {X : World} {B : Nat} {a : Option Addr} {n c : Nat} {l : Nat → Int} (h : X.heap[B]? = some (.cells (ntA a n c l) TN)) : X.cell? ⟨B, 0, none⟩ = some (.slice a n c) ∧ ∀ g, g < 6 → X.cell? ⟨B, 1 + g, none⟩ = some (.int .i64 (l g)) := by
  refine ⟨cell_lc (k := 0) h rfl, fun g hg => ?_⟩
  match g, hg with
  | 0, _ => exact cell_lc (k := 1) h rfl
  | 1, _ => exact cell_lc (k := 2) h rfl
  | 2, _ => exact cell_lc (k := 3) h rfl
  | 3, _ => exact cell_lc (k := 4) h rfl
  | 4, _ => exact cell_lc (k := 5) h rfl
  | 5, _ => exact cell_lc (k := 6) h rfl
theorem ix6N (B g : Nat) (hg : g < 6) : ∀ wx, (Instr.indexAt 84 (.pointer (some ⟨B, 1, none⟩)) (.int .i64 (g : Int))).run Try.prog wx = .ok (.pointer (some ⟨B, 1 + g, none⟩)) wx := by
  match g, hg with
  | 0, _ => exact fun _ => by kernel_rfl
  | 1, _ => exact fun _ => by kernel_rfl
  | 2, _ => exact fun _ => by kernel_rfl
  | 3, _ => exact fun _ => by kernel_rfl
  | 4, _ => exact fun _ => by kernel_rfl
  | 5, _ => exact fun _ => by kernel_rfl
theorem cl_len (h : List Cl) : ∀ row ∈ h.map Cl.cells, row.length = 7 := fun row hr => by
  obtain ⟨q, _, rfl⟩ := List.mem_map.mp hr
  rfl
/-- A list of operations of one's own: where one lies. -/
theorem cl_own {X : World} {lo : Nat} {a : Option Addr} {c : Nat} {h : List Cl} (ho : OwnL X lo 53 7 a c (h.map Cl.cells)) {k : Nat} (hk : k < h.length) : ∃ G, a = some ⟨G, 0, none⟩ ∧ lo ≤ G ∧ G < X.heap.size ∧ X.rangeAt G (k * 7) (hf h k).cells ∧ ∀ wx, (Instr.indexAt 22 (.slice a h.length c) (.int .i64 (k : Int))).run Try.prog wx = .ok (.pointer (some ⟨G, k * 7, none⟩)) wx := by
  rcases own_block ho with ⟨_, q, _⟩ | ⟨G, rfl, h1, h2⟩
  · rw [List.length_map] at q; omega
  · have hx := rows_ix_g (t := 22) Try.underlying22 (fun wx => Try.sizeOf53 wx) G h.length c k hk
    obtain ⟨b, o, x1, _, r1⟩ := cl_ix (own_rows ho (cl_len h)) hk
    have e := x1 X
    rw [hx X] at e
    simp only [Result.ok.injEq, Value.pointer.injEq, Option.some.injEq, Addr.mk.injEq, and_true] at e
    obtain ⟨rfl, rfl⟩ := e
    exact ⟨G, rfl, h1, h2, r1, hx⟩
section
variable {w0 X X' : World} {B : Nat} {h : List Cl} {oa : Option Addr} {oc : Nat}
/-- What notes have told so far, as package linear keeps it. -/
structure NtS (w0 X : World) (B : Nat) (h : List Cl) (oa : Option Addr) (oc : Nat) : Prop where
  s : X.heap[B]? = some (.cells (ntA oa h.length oc (lasF h)) TN)
  o : OwnL X w0.heap.size 53 7 oa oc (h.map Cl.cells)
  b : Below w0.heap.size w0 X
  d : w0.heap.size ≤ B
  n : B ∉ blk oa
theorem NtS.below (g : NtS w0 X B h oa oc) (hb : Below X.heap.size X X') : NtS w0 X' B h oa oc := ⟨blk_on g.s hb, own_keep g.o fun b hbb => hb.block b (blk_lt g.o b hbb).2, bthen g.b hb, g.d, g.n⟩
/-- What open answers. -/
def OpnP (h : List Cl) (oa : Option Addr) (g : Int) (v : Value) : Prop := (opnN h g = -1 ∧ v = .pointer none) ∨ ∃ k G, k < h.length ∧ opnN h g = (k : Int) ∧ oa = some ⟨G, 0, none⟩ ∧ v = .pointer (some ⟨G, k * 7, none⟩)
set_option maxHeartbeats 4000000 in
theorem open_anyN (v : NInv h) (S : NtS w0 X B h oa oc) {g : Nat} (hg : g < 6) : Calls Try.prog 71 #[.pointer (some ⟨B, 0, none⟩), .int .i64 (g : Int)] X fun e w' => ∃ v, e = .returned v ∧ OpnP h oa (g : Int) v ∧ Below X.heap.size X w' := by
  have hgH : Hid (g < 6) := hg
  have hSH : Hid (NtS w0 X B h oa oc) := S
  rcases v.open (g : Int) with ⟨h1, h2⟩ | ⟨k, hk, h1, h2⟩
  · have hlt : Hid (decide (lasF h g < 0) = true) := by (show decide (lasN h (g : Int) < 0) = true; rw [h1]; rfl)
    have hop : Hid (opnN h (g : Int) = -1) := h2
    clear v S hg h1 h2
    go_enter Try.func71, Try.ntmps71
    go_upto_region 1 with fail
    have hS : Hid (Below X.heap.size X X.drew) := bey_drew X
    have hRd : Hid (∀ w', Below X.heap.size X w' → w'.cell? ⟨B, 0, none⟩ = some (.slice oa h.length oc) ∧ w'.cell? ⟨B, 1 + g, none⟩ = some (.int .i64 (lasF h g)) ∧ True) := fun w' q => ⟨(nt_cell (hSH.out.below q).s).1, (nt_cell (hSH.out.below q).s).2 g hgH.out, trivial⟩
    refine wp_region_noPanic ?_
    refine wp_region_held_drew (S := fun w' => Below X.heap.size X w') (by kernel_rfl) hS.out (fun _ => ?_)
    refine reg_move (i := 0) rfl (by kernel_rfl) (by kernel_rfl) (by kernel_rfl) (fun _ _ _ _ h => h) rfl (.pointer (some ⟨B, 0, none⟩)) (fun _ => rfl) hS.out ?_
    simp only [Act.put, List.getElem_toArray, List.getElem_cons_succ, List.getElem_cons_zero, List.setIfInBounds_toArray, List.set_cons_zero, List.set_cons_succ]
    refine reg_move (i := 1) rfl (by kernel_rfl) (by kernel_rfl) (by kernel_rfl) (fun _ _ _ _ h => h) rfl (.int .i64 (g : Int)) (fun _ => rfl) hS.out ?_
    simp only [Act.put, List.getElem_toArray, List.getElem_cons_succ, List.getElem_cons_zero, List.setIfInBounds_toArray, List.set_cons_zero, List.set_cons_succ]
    refine reg_move (i := 2) rfl (by kernel_rfl) (by kernel_rfl) (by kernel_rfl) (fun _ _ _ _ h => h) rfl (.pointer (some ⟨B, 0, none⟩)) (fun _ => rfl) hS.out ?_
    simp only [Act.put, List.getElem_toArray, List.getElem_cons_succ, List.getElem_cons_zero, List.setIfInBounds_toArray, List.set_cons_zero, List.set_cons_succ]
    refine reg_move (i := 3) rfl (by kernel_rfl) (by kernel_rfl) (by kernel_rfl) (fun _ _ _ _ h => h) rfl (.pointer (some ⟨B, 1, none⟩)) (fun _ => rfl) hS.out ?_
    simp only [Act.put, List.getElem_toArray, List.getElem_cons_succ, List.getElem_cons_zero, List.setIfInBounds_toArray, List.set_cons_zero, List.set_cons_succ]
    refine reg_move (i := 4) rfl (by kernel_rfl) (by kernel_rfl) (by kernel_rfl) (fun _ _ _ _ h => h) rfl (.pointer (some ⟨B, 1 + g, none⟩)) (fun wx => by unfold execOp; exact run_value_of (ix6N B g hgH.out wx)) hS.out ?_
    simp only [Act.put, List.getElem_toArray, List.getElem_cons_succ, List.getElem_cons_zero, List.setIfInBounds_toArray, List.set_cons_zero, List.set_cons_succ]
    refine reg_load1 (i := 5) rfl (by kernel_rfl) (by kernel_rfl) (by kernel_rfl) (fun _ _ _ _ h => h) rfl 3 _ rfl ⟨B, 1 + g, none⟩ rfl _ Try.underlying3 rfl (.int .i64 (lasF h g)) (fun w' q => (hRd.out w' q).2.1) hS.out ?_
    simp only [Act.put, List.getElem_toArray, List.getElem_cons_succ, List.getElem_cons_zero, List.setIfInBounds_toArray, List.set_cons_zero, List.set_cons_succ]
    refine reg_move (i := 6) rfl (by kernel_rfl) (by kernel_rfl) (by kernel_rfl) (fun _ _ _ _ h => h) rfl (.bool (decide (lasF h g < 0))) (fun _ => rfl) hS.out ?_
    simp only [Act.put, List.getElem_toArray, List.getElem_cons_succ, List.getElem_cons_zero, List.setIfInBounds_toArray, List.set_cons_zero, List.set_cons_succ]
    rw [hlt.out]
    refine reg_move (i := 7) rfl (by kernel_rfl) (by kernel_rfl) (by kernel_rfl) (fun _ _ _ _ h => h) rfl (.bool true) (fun _ => rfl) hS.out ?_
    simp only [Act.put, List.getElem_toArray, List.getElem_cons_succ, List.getElem_cons_zero, List.setIfInBounds_toArray, List.set_cons_zero, List.set_cons_succ]
    refine reg_skipL (i := 8) rfl (by kernel_rfl) (by kernel_rfl) (by kernel_rfl) (fun _ _ _ _ h => h) rfl hS.out ?_
    simp only [Act.put, List.getElem_toArray, List.getElem_cons_succ, List.getElem_cons_zero, List.setIfInBounds_toArray, List.set_cons_zero, List.set_cons_succ]
    refine reg_skipL (i := 9) rfl (by kernel_rfl) (by kernel_rfl) (by kernel_rfl) (fun _ _ _ _ h => h) rfl hS.out ?_
    simp only [Act.put, List.getElem_toArray, List.getElem_cons_succ, List.getElem_cons_zero, List.setIfInBounds_toArray, List.set_cons_zero, List.set_cons_succ]
    refine reg_skipL (i := 10) rfl (by kernel_rfl) (by kernel_rfl) (by kernel_rfl) (fun _ _ _ _ h => h) rfl hS.out ?_
    simp only [Act.put, List.getElem_toArray, List.getElem_cons_succ, List.getElem_cons_zero, List.setIfInBounds_toArray, List.set_cons_zero, List.set_cons_succ]
    refine reg_skipL (i := 11) rfl (by kernel_rfl) (by kernel_rfl) (by kernel_rfl) (fun _ _ _ _ h => h) rfl hS.out ?_
    simp only [Act.put, List.getElem_toArray, List.getElem_cons_succ, List.getElem_cons_zero, List.setIfInBounds_toArray, List.set_cons_zero, List.set_cons_succ]
    refine reg_skipL (i := 12) rfl (by kernel_rfl) (by kernel_rfl) (by kernel_rfl) (fun _ _ _ _ h => h) rfl hS.out ?_
    simp only [Act.put, List.getElem_toArray, List.getElem_cons_succ, List.getElem_cons_zero, List.setIfInBounds_toArray, List.set_cons_zero, List.set_cons_succ]
    refine reg_skipL (i := 13) rfl (by kernel_rfl) (by kernel_rfl) (by kernel_rfl) (fun _ _ _ _ h => h) rfl hS.out ?_
    simp only [Act.put, List.getElem_toArray, List.getElem_cons_succ, List.getElem_cons_zero, List.setIfInBounds_toArray, List.set_cons_zero, List.set_cons_succ]
    refine reg_skipL (i := 14) rfl (by kernel_rfl) (by kernel_rfl) (by kernel_rfl) (fun _ _ _ _ h => h) rfl hS.out ?_
    simp only [Act.put, List.getElem_toArray, List.getElem_cons_succ, List.getElem_cons_zero, List.setIfInBounds_toArray, List.set_cons_zero, List.set_cons_succ]
    refine reg_skipL (i := 15) rfl (by kernel_rfl) (by kernel_rfl) (by kernel_rfl) (fun _ _ _ _ h => h) rfl hS.out ?_
    simp only [Act.put, List.getElem_toArray, List.getElem_cons_succ, List.getElem_cons_zero, List.setIfInBounds_toArray, List.set_cons_zero, List.set_cons_succ]
    refine reg_skipL (i := 16) rfl (by kernel_rfl) (by kernel_rfl) (by kernel_rfl) (fun _ _ _ _ h => h) rfl hS.out ?_
    simp only [Act.put, List.getElem_toArray, List.getElem_cons_succ, List.getElem_cons_zero, List.setIfInBounds_toArray, List.set_cons_zero, List.set_cons_succ]
    refine reg_skipL (i := 17) rfl (by kernel_rfl) (by kernel_rfl) (by kernel_rfl) (fun _ _ _ _ h => h) rfl hS.out ?_
    simp only [Act.put, List.getElem_toArray, List.getElem_cons_succ, List.getElem_cons_zero, List.setIfInBounds_toArray, List.set_cons_zero, List.set_cons_succ]
    refine reg_skipL (i := 18) rfl (by kernel_rfl) (by kernel_rfl) (by kernel_rfl) (fun _ _ _ _ h => h) rfl hS.out ?_
    simp only [Act.put, List.getElem_toArray, List.getElem_cons_succ, List.getElem_cons_zero, List.setIfInBounds_toArray, List.set_cons_zero, List.set_cons_succ]
    refine reg_skipL (i := 19) rfl (by kernel_rfl) (by kernel_rfl) (by kernel_rfl) (fun _ _ _ _ h => h) rfl hS.out ?_
    simp only [Act.put, List.getElem_toArray, List.getElem_cons_succ, List.getElem_cons_zero, List.setIfInBounds_toArray, List.set_cons_zero, List.set_cons_succ]
    refine reg_skipL (i := 20) rfl (by kernel_rfl) (by kernel_rfl) (by kernel_rfl) (fun _ _ _ _ h => h) rfl hS.out ?_
    simp only [Act.put, List.getElem_toArray, List.getElem_cons_succ, List.getElem_cons_zero, List.setIfInBounds_toArray, List.set_cons_zero, List.set_cons_succ]
    refine reg_skipL (i := 21) rfl (by kernel_rfl) (by kernel_rfl) (by kernel_rfl) (fun _ _ _ _ h => h) rfl hS.out ?_
    simp only [Act.put, List.getElem_toArray, List.getElem_cons_succ, List.getElem_cons_zero, List.setIfInBounds_toArray, List.set_cons_zero, List.set_cons_succ]
    refine reg_move (i := 22) rfl (by kernel_rfl) (by kernel_rfl) (by kernel_rfl) (fun _ _ _ _ h => h) rfl (.bool true) (fun _ => rfl) hS.out ?_
    simp only [Act.put, List.getElem_toArray, List.getElem_cons_succ, List.getElem_cons_zero, List.setIfInBounds_toArray, List.set_cons_zero, List.set_cons_succ]
    refine wpAnyH_done (by kernel_rfl) (NoPanic.normal ?_) _
    go_wp2
    go_ret
    exact ⟨_, rfl, .inl ⟨hop.out, rfl⟩, hS.out⟩
  · obtain ⟨G, hG, hlo, hlt', r1, hx⟩ := cl_own S.o hk
    have hlt : Hid (decide (lasF h g < 0) = false) := by (show decide (lasN h (g : Int) < 0) = false; rw [h1]; exact decide_eq_false (by omega))
    have hlk : Hid (lasF h g = (k : Int)) := h1
    have hkH : Hid (k < h.length) := hk
    have hix : Hid _ := hx
    have hGH : Hid (oa = some ⟨G, 0, none⟩) := hG
    have r1H : Hid (X.rangeAt G (k * 7) (hf h k).cells ∧ G < X.heap.size) := ⟨r1, hlt'⟩
    obtain ⟨p, hp⟩ : ∃ p, (hf h k).pend = p := ⟨_, rfl⟩
    have hpk : Hid ((hf h k).pend = p) := hp
    have hop : Hid (opnN h (g : Int) = if p then (k : Int) else -1) := by
      show _ = _
      rw [← hp]
      rcases h2 with ⟨a, b⟩ | ⟨a, b⟩ <;> rw [a, b] <;> rfl
    clear v S hg h1 h2 hG r1 hx hp hk hlt' hlo
    go_enter Try.func71, Try.ntmps71
    go_upto_region 1 with fail
    have hS : Hid (Below X.heap.size X X.drew) := bey_drew X
    have hRd : Hid (∀ w', Below X.heap.size X w' → w'.cell? ⟨B, 0, none⟩ = some (.slice oa h.length oc) ∧ w'.cell? ⟨B, 1 + g, none⟩ = some (.int .i64 (lasF h g)) ∧ w'.rangeAt G (k * 7) (hf h k).cells) := fun w' q => ⟨(nt_cell (hSH.out.below q).s).1, (nt_cell (hSH.out.below q).s).2 g hgH.out, range_blk r1H.out.1 (q.block _ r1H.out.2)⟩
    refine wp_region_noPanic ?_
    refine wp_region_held_drew (S := fun w' => Below X.heap.size X w') (by kernel_rfl) hS.out (fun _ => ?_)
    refine reg_move (i := 0) rfl (by kernel_rfl) (by kernel_rfl) (by kernel_rfl) (fun _ _ _ _ h => h) rfl (.pointer (some ⟨B, 0, none⟩)) (fun _ => rfl) hS.out ?_
    simp only [Act.put, List.getElem_toArray, List.getElem_cons_succ, List.getElem_cons_zero, List.setIfInBounds_toArray, List.set_cons_zero, List.set_cons_succ]
    refine reg_move (i := 1) rfl (by kernel_rfl) (by kernel_rfl) (by kernel_rfl) (fun _ _ _ _ h => h) rfl (.int .i64 (g : Int)) (fun _ => rfl) hS.out ?_
    simp only [Act.put, List.getElem_toArray, List.getElem_cons_succ, List.getElem_cons_zero, List.setIfInBounds_toArray, List.set_cons_zero, List.set_cons_succ]
    refine reg_move (i := 2) rfl (by kernel_rfl) (by kernel_rfl) (by kernel_rfl) (fun _ _ _ _ h => h) rfl (.pointer (some ⟨B, 0, none⟩)) (fun _ => rfl) hS.out ?_
    simp only [Act.put, List.getElem_toArray, List.getElem_cons_succ, List.getElem_cons_zero, List.setIfInBounds_toArray, List.set_cons_zero, List.set_cons_succ]
    refine reg_move (i := 3) rfl (by kernel_rfl) (by kernel_rfl) (by kernel_rfl) (fun _ _ _ _ h => h) rfl (.pointer (some ⟨B, 1, none⟩)) (fun _ => rfl) hS.out ?_
    simp only [Act.put, List.getElem_toArray, List.getElem_cons_succ, List.getElem_cons_zero, List.setIfInBounds_toArray, List.set_cons_zero, List.set_cons_succ]
    refine reg_move (i := 4) rfl (by kernel_rfl) (by kernel_rfl) (by kernel_rfl) (fun _ _ _ _ h => h) rfl (.pointer (some ⟨B, 1 + g, none⟩)) (fun wx => by unfold execOp; exact run_value_of (ix6N B g hgH.out wx)) hS.out ?_
    simp only [Act.put, List.getElem_toArray, List.getElem_cons_succ, List.getElem_cons_zero, List.setIfInBounds_toArray, List.set_cons_zero, List.set_cons_succ]
    refine reg_load1 (i := 5) rfl (by kernel_rfl) (by kernel_rfl) (by kernel_rfl) (fun _ _ _ _ h => h) rfl 3 _ rfl ⟨B, 1 + g, none⟩ rfl _ Try.underlying3 rfl (.int .i64 (lasF h g)) (fun w' q => (hRd.out w' q).2.1) hS.out ?_
    simp only [Act.put, List.getElem_toArray, List.getElem_cons_succ, List.getElem_cons_zero, List.setIfInBounds_toArray, List.set_cons_zero, List.set_cons_succ]
    refine reg_move (i := 6) rfl (by kernel_rfl) (by kernel_rfl) (by kernel_rfl) (fun _ _ _ _ h => h) rfl (.bool (decide (lasF h g < 0))) (fun _ => rfl) hS.out ?_
    simp only [Act.put, List.getElem_toArray, List.getElem_cons_succ, List.getElem_cons_zero, List.setIfInBounds_toArray, List.set_cons_zero, List.set_cons_succ]
    rw [hlt.out]
    refine reg_move (i := 7) rfl (by kernel_rfl) (by kernel_rfl) (by kernel_rfl) (fun _ _ _ _ h => h) rfl (.bool false) (fun _ => rfl) hS.out ?_
    simp only [Act.put, List.getElem_toArray, List.getElem_cons_succ, List.getElem_cons_zero, List.setIfInBounds_toArray, List.set_cons_zero, List.set_cons_succ]
    refine reg_move (i := 8) rfl (by kernel_rfl) (by kernel_rfl) (by kernel_rfl) (fun _ _ _ _ h => h) rfl (.pointer (some ⟨B, 0, none⟩)) (fun _ => rfl) hS.out ?_
    simp only [Act.put, List.getElem_toArray, List.getElem_cons_succ, List.getElem_cons_zero, List.setIfInBounds_toArray, List.set_cons_zero, List.set_cons_succ]
    refine reg_move (i := 9) rfl (by kernel_rfl) (by kernel_rfl) (by kernel_rfl) (fun _ _ _ _ h => h) rfl (.pointer (some ⟨B, 0, none⟩)) (fun _ => rfl) hS.out ?_
    simp only [Act.put, List.getElem_toArray, List.getElem_cons_succ, List.getElem_cons_zero, List.setIfInBounds_toArray, List.set_cons_zero, List.set_cons_succ]
    refine reg_move (i := 10) rfl (by kernel_rfl) (by kernel_rfl) (by kernel_rfl) (fun _ _ _ _ h => h) rfl (.pointer (some ⟨B, 0, none⟩)) (fun _ => rfl) hS.out ?_
    simp only [Act.put, List.getElem_toArray, List.getElem_cons_succ, List.getElem_cons_zero, List.setIfInBounds_toArray, List.set_cons_zero, List.set_cons_succ]
    refine reg_load1 (i := 11) rfl (by kernel_rfl) (by kernel_rfl) (by kernel_rfl) (fun _ _ _ _ h => h) rfl 22 _ rfl ⟨B, 0, none⟩ rfl _ Try.underlying22 rfl (.slice oa h.length oc) (fun w' q => (hRd.out w' q).1) hS.out ?_
    simp only [Act.put, List.getElem_toArray, List.getElem_cons_succ, List.getElem_cons_zero, List.setIfInBounds_toArray, List.set_cons_zero, List.set_cons_succ]
    refine reg_move (i := 12) rfl (by kernel_rfl) (by kernel_rfl) (by kernel_rfl) (fun _ _ _ _ h => h) rfl (.pointer (some ⟨B, 0, none⟩)) (fun _ => rfl) hS.out ?_
    simp only [Act.put, List.getElem_toArray, List.getElem_cons_succ, List.getElem_cons_zero, List.setIfInBounds_toArray, List.set_cons_zero, List.set_cons_succ]
    refine reg_move (i := 13) rfl (by kernel_rfl) (by kernel_rfl) (by kernel_rfl) (fun _ _ _ _ h => h) rfl (.int .i64 (g : Int)) (fun _ => rfl) hS.out ?_
    simp only [Act.put, List.getElem_toArray, List.getElem_cons_succ, List.getElem_cons_zero, List.setIfInBounds_toArray, List.set_cons_zero, List.set_cons_succ]
    refine reg_move (i := 14) rfl (by kernel_rfl) (by kernel_rfl) (by kernel_rfl) (fun _ _ _ _ h => h) rfl (.pointer (some ⟨B, 0, none⟩)) (fun _ => rfl) hS.out ?_
    simp only [Act.put, List.getElem_toArray, List.getElem_cons_succ, List.getElem_cons_zero, List.setIfInBounds_toArray, List.set_cons_zero, List.set_cons_succ]
    refine reg_move (i := 15) rfl (by kernel_rfl) (by kernel_rfl) (by kernel_rfl) (fun _ _ _ _ h => h) rfl (.pointer (some ⟨B, 1, none⟩)) (fun _ => rfl) hS.out ?_
    simp only [Act.put, List.getElem_toArray, List.getElem_cons_succ, List.getElem_cons_zero, List.setIfInBounds_toArray, List.set_cons_zero, List.set_cons_succ]
    refine reg_move (i := 16) rfl (by kernel_rfl) (by kernel_rfl) (by kernel_rfl) (fun _ _ _ _ h => h) rfl (.pointer (some ⟨B, 1 + g, none⟩)) (fun wx => by unfold execOp; exact run_value_of (ix6N B g hgH.out wx)) hS.out ?_
    simp only [Act.put, List.getElem_toArray, List.getElem_cons_succ, List.getElem_cons_zero, List.setIfInBounds_toArray, List.set_cons_zero, List.set_cons_succ]
    refine reg_load1 (i := 17) rfl (by kernel_rfl) (by kernel_rfl) (by kernel_rfl) (fun _ _ _ _ h => h) rfl 3 _ rfl ⟨B, 1 + g, none⟩ rfl _ Try.underlying3 rfl (.int .i64 (lasF h g)) (fun w' q => (hRd.out w' q).2.1) hS.out ?_
    simp only [Act.put, List.getElem_toArray, List.getElem_cons_succ, List.getElem_cons_zero, List.setIfInBounds_toArray, List.set_cons_zero, List.set_cons_succ]
    rw [hlk.out]
    refine reg_move (i := 18) rfl (by kernel_rfl) (by kernel_rfl) (by kernel_rfl) (fun _ _ _ _ h => h) rfl (.pointer (some ⟨G, k * 7, none⟩)) (fun wx => by unfold execOp; exact run_value_of (hix.out wx)) hS.out ?_
    simp only [Act.put, List.getElem_toArray, List.getElem_cons_succ, List.getElem_cons_zero, List.setIfInBounds_toArray, List.set_cons_zero, List.set_cons_succ]
    refine reg_load (i := 19) rfl (by kernel_rfl) (by kernel_rfl) (by kernel_rfl) (fun _ _ _ _ h => h) rfl 53 _ rfl G (k * 7) rfl (hf h k).cells _ (fun w' q => (hRd.out w' q).2.2) Try.underlying53 rfl infoX hS.out ?_
    simp only [Act.put, List.getElem_toArray, List.getElem_cons_succ, List.getElem_cons_zero, List.setIfInBounds_toArray, List.set_cons_zero, List.set_cons_succ]
    refine reg_call1 (i := 20) (by kernel_rfl) rfl rfl 47 _ _ rfl (hf h k).val rfl (cf_fn Try.func47 (by kernel_rfl) (by kernel_rfl) _ _) _ (pend_any _ _) ?_
    rintro e1 X1 ⟨rfl, hb1⟩
    have hb2 : Hid (Below X.heap.size X X1) := bthen hS.out hb1
    refine ⟨_, rfl, hb2.out, fun _ => ?_⟩
    simp only [Act.put, List.getElem_toArray, List.getElem_cons_succ, List.getElem_cons_zero, List.setIfInBounds_toArray, List.set_cons_zero, List.set_cons_succ]
    rw [hpk.out]
    refine reg_move (i := 21) rfl (by kernel_rfl) (by kernel_rfl) (by kernel_rfl) (fun _ _ _ _ h => h) rfl (.bool (!p)) (fun _ => rfl) hb2.out ?_
    simp only [Act.put, List.getElem_toArray, List.getElem_cons_succ, List.getElem_cons_zero, List.setIfInBounds_toArray, List.set_cons_zero, List.set_cons_succ]
    refine reg_move (i := 22) rfl (by kernel_rfl) (by kernel_rfl) (by kernel_rfl) (fun _ _ _ _ h => h) rfl (.bool (!p)) (fun _ => rfl) hb2.out ?_
    simp only [Act.put, List.getElem_toArray, List.getElem_cons_succ, List.getElem_cons_zero, List.setIfInBounds_toArray, List.set_cons_zero, List.set_cons_succ]
    refine wpAnyH_done (by kernel_rfl) (NoPanic.normal ?_) _
    cases p with
    | false =>
      go_wp2
      go_ret
      exact ⟨_, rfl, .inl ⟨hop.out, rfl⟩, hb2.out⟩
    | true =>
      go_upto_region 3 with fail
      have hb3 : Hid (Below X.heap.size X X1.drew) := bthen hb2.out (bey_drew X1)
      have hRd2 := hRd
      clear hRd hS hb1
      have hS : Hid (Below X.heap.size X X1.drew) := hb3.out
      refine wp_region_noPanic ?_
      refine wp_region_held_drew (S := fun w' => Below X.heap.size X w') (by kernel_rfl) hS.out (fun _ => ?_)
      refine reg_move (i := 0) rfl (by kernel_rfl) (by kernel_rfl) (by kernel_rfl) (fun _ _ _ _ h => h) rfl (.pointer (some ⟨B, 0, none⟩)) (fun _ => rfl) hS.out ?_
      simp only [Act.put, List.getElem_toArray, List.getElem_cons_succ, List.getElem_cons_zero, List.setIfInBounds_toArray, List.set_cons_zero, List.set_cons_succ]
      refine reg_move (i := 1) rfl (by kernel_rfl) (by kernel_rfl) (by kernel_rfl) (fun _ _ _ _ h => h) rfl (.pointer (some ⟨B, 0, none⟩)) (fun _ => rfl) hS.out ?_
      simp only [Act.put, List.getElem_toArray, List.getElem_cons_succ, List.getElem_cons_zero, List.setIfInBounds_toArray, List.set_cons_zero, List.set_cons_succ]
      refine reg_move (i := 2) rfl (by kernel_rfl) (by kernel_rfl) (by kernel_rfl) (fun _ _ _ _ h => h) rfl (.pointer (some ⟨B, 0, none⟩)) (fun _ => rfl) hS.out ?_
      simp only [Act.put, List.getElem_toArray, List.getElem_cons_succ, List.getElem_cons_zero, List.setIfInBounds_toArray, List.set_cons_zero, List.set_cons_succ]
      refine reg_load1 (i := 3) rfl (by kernel_rfl) (by kernel_rfl) (by kernel_rfl) (fun _ _ _ _ h => h) rfl 22 _ rfl ⟨B, 0, none⟩ rfl _ Try.underlying22 rfl (.slice oa h.length oc) (fun w' q => (hRd2.out w' q).1) hS.out ?_
      simp only [Act.put, List.getElem_toArray, List.getElem_cons_succ, List.getElem_cons_zero, List.setIfInBounds_toArray, List.set_cons_zero, List.set_cons_succ]
      refine reg_move (i := 4) rfl (by kernel_rfl) (by kernel_rfl) (by kernel_rfl) (fun _ _ _ _ h => h) rfl (.pointer (some ⟨B, 0, none⟩)) (fun _ => rfl) hS.out ?_
      simp only [Act.put, List.getElem_toArray, List.getElem_cons_succ, List.getElem_cons_zero, List.setIfInBounds_toArray, List.set_cons_zero, List.set_cons_succ]
      refine reg_move (i := 5) rfl (by kernel_rfl) (by kernel_rfl) (by kernel_rfl) (fun _ _ _ _ h => h) rfl (.int .i64 (g : Int)) (fun _ => rfl) hS.out ?_
      simp only [Act.put, List.getElem_toArray, List.getElem_cons_succ, List.getElem_cons_zero, List.setIfInBounds_toArray, List.set_cons_zero, List.set_cons_succ]
      refine reg_move (i := 6) rfl (by kernel_rfl) (by kernel_rfl) (by kernel_rfl) (fun _ _ _ _ h => h) rfl (.pointer (some ⟨B, 0, none⟩)) (fun _ => rfl) hS.out ?_
      simp only [Act.put, List.getElem_toArray, List.getElem_cons_succ, List.getElem_cons_zero, List.setIfInBounds_toArray, List.set_cons_zero, List.set_cons_succ]
      refine reg_move (i := 7) rfl (by kernel_rfl) (by kernel_rfl) (by kernel_rfl) (fun _ _ _ _ h => h) rfl (.pointer (some ⟨B, 1, none⟩)) (fun _ => rfl) hS.out ?_
      simp only [Act.put, List.getElem_toArray, List.getElem_cons_succ, List.getElem_cons_zero, List.setIfInBounds_toArray, List.set_cons_zero, List.set_cons_succ]
      refine reg_move (i := 8) rfl (by kernel_rfl) (by kernel_rfl) (by kernel_rfl) (fun _ _ _ _ h => h) rfl (.pointer (some ⟨B, 1 + g, none⟩)) (fun wx => by unfold execOp; exact run_value_of (ix6N B g hgH.out wx)) hS.out ?_
      simp only [Act.put, List.getElem_toArray, List.getElem_cons_succ, List.getElem_cons_zero, List.setIfInBounds_toArray, List.set_cons_zero, List.set_cons_succ]
      refine reg_load1 (i := 9) rfl (by kernel_rfl) (by kernel_rfl) (by kernel_rfl) (fun _ _ _ _ h => h) rfl 3 _ rfl ⟨B, 1 + g, none⟩ rfl _ Try.underlying3 rfl (.int .i64 (lasF h g)) (fun w' q => (hRd2.out w' q).2.1) hS.out ?_
      simp only [Act.put, List.getElem_toArray, List.getElem_cons_succ, List.getElem_cons_zero, List.setIfInBounds_toArray, List.set_cons_zero, List.set_cons_succ]
      rw [hlk.out]
      refine reg_move (i := 10) rfl (by kernel_rfl) (by kernel_rfl) (by kernel_rfl) (fun _ _ _ _ h => h) rfl (.pointer (some ⟨G, k * 7, none⟩)) (fun wx => by unfold execOp; exact run_value_of (hix.out wx)) hS.out ?_
      simp only [Act.put, List.getElem_toArray, List.getElem_cons_succ, List.getElem_cons_zero, List.setIfInBounds_toArray, List.set_cons_zero, List.set_cons_succ]
      refine reg_move (i := 11) rfl (by kernel_rfl) (by kernel_rfl) (by kernel_rfl) (fun _ _ _ _ h => h) rfl (.pointer (some ⟨G, k * 7, none⟩)) (fun _ => rfl) hS.out ?_
      simp only [Act.put, List.getElem_toArray, List.getElem_cons_succ, List.getElem_cons_zero, List.setIfInBounds_toArray, List.set_cons_zero, List.set_cons_succ]
      refine wpAnyH_done (by kernel_rfl) (NoPanic.normal ?_) _
      go_wp2
      go_ret
      exact ⟨_, rfl, .inr ⟨k, G, hkH.out, hop.out, hGH.out, rfl⟩, hb3.out⟩
end
end Go.Proofs.Ytklpifammbnldaa.pg
/- What the notes of a trace tell: what a tag speaks of. -/
namespace Go.Proofs.Ytklpifammbnldaa.pg
open Go.ChangeShapes Go.WideShapes Go.ChangeAt Go.RowKit
set_option linter.unusedVariables false
set_option linter.unusedSimpArgs false
set_option maxRecDepth 100000
attribute [local go_sem ↓] Go.wp_at_zero Go.wp_at_succ
set_option maxHeartbeats 4000000 in
theorem parts_in (z : Int) (w : World) (h1 : 10 ≤ z) (h2 : z ≤ 53) : Calls Try.prog 54 #[.int .i64 z] w fun e w' => e = .returned (.tuple #[.int .i64 (tagD z), .int .i64 (tagW z), .bool (tagW z == 1 || (tagW z == 2 || (tagW z == 3 && tagD z == 5)))]) ∧ w' = w := by
  have e1 : ¬ z < 10 := by omega
  have e2 : ¬ 53 < z := by omega
  unfold tagD tagW
  by_cases q1 : z % 10 = 1
  · go_enter Try.func54, Try.ntmps54
    go_wp2
    go_ret3
    exact ⟨by simp [q1], rfl⟩
  · by_cases q2 : z % 10 = 2
    · go_enter Try.func54, Try.ntmps54
      go_wp2
      go_ret3
      exact ⟨by simp [q2], rfl⟩
    · by_cases q3 : z % 10 = 3
      · go_enter Try.func54, Try.ntmps54
        go_wp2
        go_ret3
        exact ⟨by simp [q3], rfl⟩
      · go_enter Try.func54, Try.ntmps54
        go_wp2
        go_ret3
        exact ⟨by (have b1 := beq_eq_false_iff_ne.mpr q1; have b2 := beq_eq_false_iff_ne.mpr q2; have b3 := beq_eq_false_iff_ne.mpr q3; simp [b1, b2, b3]; try omega), rfl⟩
set_option maxHeartbeats 4000000 in
theorem parts_out (z : Int) (w : World) (h1 : z < 10 ∨ 53 < z) : Calls Try.prog 54 #[.int .i64 z] w fun e w' => e = .returned (.tuple #[.int .i64 0, .int .i64 0, .bool false]) ∧ w' = w := by
  rcases h1 with q | q
  · go_enter Try.func54, Try.ntmps54
    go_wp2
    go_ret3
    exact ⟨rfl, rfl⟩
  · have e1 : ¬ z < 10 := by omega
    go_enter Try.func54, Try.ntmps54
    go_wp2
    go_ret3
    exact ⟨rfl, rfl⟩
end Go.Proofs.Ytklpifammbnldaa.pg
