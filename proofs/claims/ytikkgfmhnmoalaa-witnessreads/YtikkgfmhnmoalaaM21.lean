/- The contract of the document's own Sum. -/
import Derived.Test.YtikkgfmhnmoalaaM5
import Derived.Test.YtikkgfmhnmoalaaM20
import Derived.Test.YtikkgfmhnmoalaaM11
namespace Go.Proofs.Ytikkgfmhnmoalaa.octet
open Go.ChangeShapes Go.WideShapes Go.ChangeAt Go.RowKit
open wrapped
set_option linter.unusedVariables false
set_option maxHeartbeats 1000000 in
theorem refsum_any (a : Option Addr) (len cap : Nat) (f : Nat → Nat) (w : World) (hr : Row w a len f) :
    Calls Try.prog 24 #[.slice a len cap] w fun e w' => e = .returned (.int .u32 ((4294967295 - crc f len : Nat) : Int)) ∧ w' = w := by
  obtain ⟨hlen, hf, hcells⟩ := hr
  go_enter Try.func24, Try.ntmps24
  go_wp2
  go_loop [3, 4] (fun c i => ∃ (k C : Nat), k ≤ len ∧ i = .int .i64 k ∧ c = .int .u32 C ∧ C < 4294967296 ∧ Hid (C = crc f k)) (fun _ i => len - (intOf i).toNat)
  case atStart => exact ⟨0, 4294967295, Nat.zero_le _, rfl, rfl, by decide, rfl⟩
  case round =>
    obtain ⟨k, C, hk, rfl, rfl, hC, hCk⟩ := hrel
    by_cases hlt : k < len
    · rcases hcells with h0 | ⟨b, off, rfl, hcell⟩
      · omega
      · have hc := hcell k hlt
        have hfk := hf k
        have e0 : bits .xor .u32 (C : Int) ((f k : Nat) : Int) = ((C ^^^ f k : Nat) : Int) := u32_xor_nat C (f k) hC (by omega)
        obtain ⟨D0, hD0⟩ : ∃ D0, Hid (C ^^^ f k = D0) := ⟨_, rfl⟩
        have hD0l : D0 < 4294967296 := by rw [← hD0.out]; exact xor_lt32 hC (by omega)
        rw [hD0.out] at e0
        have hD0k : Hid (D0 = crc f k ^^^ f k) := by show D0 = _; rw [← hD0.out, hCk.out]
        clear hcell hD0
        go_wp2
        go_loop [3, 5] (fun c j => ∃ (m D : Nat), m ≤ 8 ∧ j = .int .i64 m ∧ c = .int .u32 D ∧ D < 4294967296 ∧ Hid (D = iter m (crc f k ^^^ f k))) (fun _ j => 8 - (intOf j).toNat)
        case atStart => exact ⟨0, D0, Nat.zero_le _, rfl, rfl, hD0l, hD0k⟩
        case round =>
          obtain ⟨m, D, hm, rfl, rfl, hD, hDm⟩ := hrel
          by_cases hm8 : m < 8
          · have hDm2 : Hid (st D = iter (m + 1) (crc f k ^^^ f k)) := by show st D = st _; rw [hDm.out]
            have hst := st_lt D hD
            rcases (by omega : D % 2 = 0 ∨ D % 2 = 1) with hp | hp
            · have e1' : ((D : Int) % 2 == 1) = false := by simp; omega
              have e2 : Hid ((D : Int) / 2 = ((st D : Nat) : Int)) := by show (D : Int) / 2 = _; rw [st_even D hp]; omega
              clear hp
              go_wp2
              go_round
              case rel => exact ⟨m + 1, st D, by omega, by go_num, by rw [← e2.out], hst, hDm2⟩
              case measure => simp [intOf]; omega
            · have e1' : ((D : Int) % 2 == 1) = true := by simp; omega
              have e2 : bits .xor .u32 ((D : Int) / 2) 3988292384 = ((st D : Nat) : Int) := by
                have := u32_xor_nat (D / 2) 3988292384 (by omega) (by omega)
                rw [← st_odd D hp] at this
                exact this
              clear hp
              go_wp2
              go_round
              case rel => exact ⟨m + 1, st D, by omega, by go_num, rfl, hst, hDm2⟩
              case measure => simp [intOf]; omega
          · go_wp2
            go_round
            case rel => exact ⟨k + 1, D, by omega, by go_num, rfl, hD, by show D = iter 8 _; rw [hDm.out, show m = 8 by omega]⟩
            case measure => simp [intOf]; omega
    · go_wp2
      go_ret
      have : k = len := by omega
      subst this
      exact ⟨ret_int (by have := hCk.out; omega), rfl⟩
end Go.Proofs.Ytikkgfmhnmoalaa.octet
/- The document's own Write of a witness. -/
namespace Go.Proofs.Ytikkgfmhnmoalaa.pg
open Go.ChangeShapes Go.WideShapes Go.ChangeAt Go.RowKit
set_option linter.unusedVariables false
set_option linter.unusedSimpArgs false
set_option maxRecDepth 100000
theorem own_lower {w : World} {lo lo' e k : Nat} {a : Option Addr} {cap : Nat} {L : List (List Value)} (h : OwnL w lo e k a cap L) (hl : lo' ≤ lo) : OwnL w lo' e k a cap L :=
  ⟨h.1, h.2.imp_right fun ⟨g, cap', cur, q, hb, hr⟩ => ⟨g, cap', cur, q, Nat.le_trans hl hb, hr⟩⟩
theorem own_on {w w' : World} {lo e k : Nat} {a : Option Addr} {cap : Nat} {L : List (List Value)} (h : OwnL w lo e k a cap L) (hb : Below w.heap.size w w') : OwnL w' lo e k a cap L := own_keep h fun b hbb => hb.block b (blk_lt h b hbb).2
abbrev putP (p : Int × Int) : List Nat := numB p.1 ++ numB p.2
theorem body_doc (M : Wi) : M.body = ((magW ++ sumB M.s.toNat) ++ M.vals.flatMap numB) ++ M.pk.flatMap putP := by
  unfold Wi.body Wi.nums
  rw [List.flatMap_append, ← List.append_assoc]
  have e1 : (M.head.flatMap fun x => numB x.2.2) = M.vals.flatMap numB := rfl
  have e2 : ((pairs M.pk).flatMap fun x => numB x.2.2) = M.pk.flatMap putP := by
    unfold pairs
    rw [List.flatMap_assoc]
    congr 1
    funext p
    simp [putP]
  rw [e1, e2]
/-- The document's Put, of bytes of the call's own. -/
theorem rput_w (L : List Nat) (n : Nat) (hn : L.length = n) (a : Option Addr) (c lo : Nat) (x : Int) (W : World) (h : OwnL W lo 5 1 a c (L.map u8c)) (hbt : Bt L) (hlen : L.length ≤ 1000000) (h0 : 0 ≤ x) (h1 : x ≤ 65536) : Calls Try.prog 23 #[.slice a n c, .int .u64 x] W fun e w' => ∃ g c', e = .returned (.slice (some ⟨g, 0, none⟩) (n + (numB x).length) c') ∧ OwnL w' W.heap.size 5 1 (some ⟨g, 0, none⟩) c' ((L ++ numB x).map u8c) ∧ Below W.heap.size W w' := by
  subst hn
  have hR := own_rows h (u8_len _)
  have e : numB x = putB x.toNat := by unfold numB; congr 1; omega
  refine (octet.refput_any a L.length c (fl L) x.toNat x W (rows_row hR hbt) (fun ha => ?_) (by omega) (by omega) (by omega)).mono ?_
  · have := hR.2.2.1 ha
    exact ⟨by have := this.1; simpa using this, this.2⟩
  · rintro e' w' ⟨b, c', rfl, ho, hb⟩
    rw [e]
    exact ⟨b, c', by rw [putB_len], own_put ho, hb⟩
/-- How the document's Write stands. -/
structure RwS (w W : World) (M : Wi) (pa : Option Addr) (pc B : Nat) (L : List Nat) (a : Option Addr) (c : Nat) : Prop where
  g : W.heap[w.heap.size]? = some (objWi M pa pc)
  f : Rows W 1 (some ⟨B, 0, none⟩) 11 (M.vals.map chCells)
  p : Rows W 2 pa pc (M.pk.map pkC)
  o : OwnL W w.heap.size 5 1 a c (L.map u8c)
  t : Bt L
  b : Below w.heap.size w W
theorem RwS.step {w W W' : World} {M : Wi} {pa : Option Addr} {pc B : Nat} {L : List Nat} {a : Option Addr} {c : Nat} (h : RwS w W M pa pc B L a c) (hb : Below W.heap.size W W') {L' : List Nat} {a' : Option Addr} {c' lo : Nat} (ho : OwnL W' lo 5 1 a' c' (L'.map u8c)) (hlo : w.heap.size ≤ lo) (ht : Bt L') : RwS w W' M pa pc B L' a' c' :=
  ⟨(hb.block _ (Array.getElem?_eq_some_iff.mp h.g).1).trans h.g, h.f.later hb, h.p.later hb, own_lower ho hlo, ht, h.b.trans (hb.mono h.b.size)⟩
theorem RwS.later {w W W' : World} {M : Wi} {pa : Option Addr} {pc B : Nat} {L : List Nat} {a : Option Addr} {c : Nat} (h : RwS w W M pa pc B L a c) (hb : Below W.heap.size W W') : RwS w W' M pa pc B L a c :=
  h.step hb (own_on h.o hb) (Nat.le_refl _) h.t
theorem ok_vals {M : Wi} (h : M.ok = true) {i : Nat} {x : Int} (hx : M.vals[i]? = some x) : 0 ≤ x ∧ x ≤ 65536 := by
  have hlt : i < 11 := (List.getElem?_eq_some_iff.mp hx).1
  obtain ⟨m, hm⟩ : ∃ m, mostL[i]? = some m := ⟨_, List.getElem?_eq_getElem (by show i < 11; exact hlt)⟩
  have h1 := ((ok_doc M).mp h).1 i x m hlt hx hm
  have : m ≤ 65536 := by
    have := List.mem_of_getElem? hm
    simp only [mostL, List.mem_cons, List.not_mem_nil, or_false] at this
    omega
  omega
theorem flat_len10 {α : Type} (f : α → List Nat) (k : Nat) (h : ∀ x, (f x).length ≤ k) : ∀ l : List α, (l.flatMap f).length ≤ k * l.length
  | [] => by simp
  | a :: t => by
    have h1 := h a
    have h2 := flat_len10 f k h t
    rw [List.flatMap_cons, List.length_append, List.length_cons, Nat.mul_succ]
    omega
theorem take_len {α : Type} (l : List α) (i : Nat) : (l.take i).length ≤ l.length := by rw [List.length_take]; omega
theorem own_mag (w : World) : OwnL (w.alloc (.cells #[.int .u8 115, .int .u8 99, .int .u8 97, .int .u8 119] 5)) w.heap.size 5 1 (some ⟨w.heap.size, 0, none⟩) 4 (magW.map u8c) :=
  ⟨rfl, .inr ⟨w.heap.size, 4, _, rfl, Nat.le_refl _, heap_alloc_new w _, Nat.le_refl _, by unfold maxLen; decide, rfl, rfl⟩⟩
section
variable {w : World}
set_option maxHeartbeats 4000000 in
theorem rwrite_bad (M : Wi) (pa : Option Addr) (pc : Nat) (hin : WitIn w M pa pc) (hok : M.ok = false) : Calls Try.prog 8 #[.agg (M.cells pa pc).toArray] w fun e w' => e = .returned (.tuple #[.slice none 0 0, .int .i64 1]) ∧ Below w.heap.size w w' := by
  have hb := boxed w (objWi M pa pc)
  have hz : Hid ((w.alloc (objWi M pa pc)).heap[w.heap.size]? = some (objWi M pa pc)) := heap_alloc_new _ _
  have huW : Hid (Try.prog.underlying 31 = _) := Try.underlying31
  have hiC : Hid ((Try.prog.info? 31).map (·.size) = some (M.cells pa pc).toArray.size) := infoW12
  have cR := rrightW_any M pa pc (w.alloc (objWi M pa pc)) (hin.r.later hb) hin.v
  rw [hok] at cR
  clear hin hok
  go_enter Try.func8, Try.ntmps8
  go_wp2_with (first
    | (refine wpList_load_row rfl 31 _ rfl w.heap.size rfl _ _ _ _ hz.out huW.out rfl hiC.out ?_)
    | (go_at_call 14; (with_reducible refine cR.mono ?_); rintro e w1 ⟨rfl, hb1⟩))
  go_ret2
  exact ⟨rfl, bthen hb hb1⟩
set_option maxHeartbeats 8000000 in
theorem rwrite_ok (M : Wi) (pa : Option Addr) (pc : Nat) (hin : WitIn w M pa pc) (hok : M.ok = true) : Calls Try.prog 8 #[.agg (M.cells pa pc).toArray] w fun e w' => ∃ va vc, e = .returned (.tuple #[.slice va M.bytes.length vc, .int .i64 0]) ∧ OwnL w' w.heap.size 5 1 va vc (M.bytes.map u8c) ∧ Below w.heap.size w w' := by
  have hb := boxed w (objWi M pa pc)
  have hz : Hid ((w.alloc (objWi M pa pc)).heap[w.heap.size]? = some (objWi M pa pc)) := heap_alloc_new _ _
  have huW : Hid (Try.prog.underlying 31 = _) := Try.underlying31
  have hiC : Hid ((Try.prog.info? 31).map (·.size) = some (M.cells pa pc).toArray.size) := infoW12
  have cR := rrightW_any M pa pc (w.alloc (objWi M pa pc)) (hin.r.later hb) hin.v
  rw [hok] at cR
  have hpH : Hid (∀ wx, Below w.heap.size w wx → Rows wx 2 pa pc (M.pk.map pkC)) := fun wx h => hin.r.later h
  obtain ⟨S, hS⟩ : ∃ S : Nat, M.s = (S : Int) := ⟨M.s.toNat, by have := hin.s0; omega⟩
  have hS2 : Hid (S < 4294967296 ∧ M.s.toNat = S) := ⟨by have := hin.s1; omega, by omega⟩
  have cX : ∀ wx, Calls Try.prog 21 #[.int .u32 (S : Int)] wx _ := fun wx => octet.reffixed_any (S : Int) (by omega) (by have := hS2.out.1; omega) wx
  have cF : ∀ wx, Calls Try.prog 22 #[.agg (M.cells pa pc).toArray] wx _ := fun wx => fields_any M pa pc wx
  obtain ⟨i5, hi5, hz5, hs5, hb5⟩ := info_of infoB
  have hokH : Hid (M.ok = true) := hok
  clear hin hok
  go_enter Try.func8, Try.ntmps8
  go_wp2_with (first
    | (refine wpList_load_row rfl 31 _ rfl w.heap.size rfl _ _ _ _ hz.out huW.out rfl hiC.out ?_)
    | (refine wpList_load_row rfl 31 _ rfl w.heap.size rfl _ _ _ _ hz3.out huW.out rfl hiC.out ?_)
    | (go_at_call 14; (with_reducible refine cR.mono ?_); rintro e w1 ⟨rfl, hb1⟩; (have B1 := bthen hb hb1); (have hz1 : Hid (w1.heap[w.heap.size]? = some (objWi M pa pc)) := (hb1.block _ (by rw [World.size_alloc]; omega)).trans hz.out);
        (have hA := boxed w1 (.cells #[.int .u8 115, .int .u8 99, .int .u8 97, .int .u8 119] 5)); (have hO1 : Hid _ := own_mag w1); (have k0 : (w1.alloc (.cells #[.int .u8 115, .int .u8 99, .int .u8 97, .int .u8 119] 5)).cell? ⟨w.heap.size, 0, none⟩ = some (.int .u32 (S : Int)) := by rw [← hS]; exact (cell_of_row _ _ 0 _ _ _ ((hA.block _ (Array.getElem?_eq_some_iff.mp hz1.out).1).trans hz1.out)).trans rfl))
    | (go_at_call 21; (with_reducible refine (cX _).mono ?_); rintro e w2 ⟨rfl, hb2⟩; clear k0;
        (have hbN : Hid (Below (w1.alloc (.cells #[.int .u8 115, .int .u8 99, .int .u8 97, .int .u8 119] 5)).heap.size (w1.alloc (.cells #[.int .u8 115, .int .u8 99, .int .u8 97, .int .u8 119] 5)) (w2.alloc (objSum S))) := bthen hb2 (boxed _ _)); (have hoN : Hid (OwnL (w2.alloc (objSum S)) w1.heap.size 5 1 (some ⟨w1.heap.size, 0, none⟩) 4 (magW.map u8c)) := own_on hO1.out hbN.out); (have hrN : Hid (Rows (w2.alloc (objSum S)) 1 (some ⟨w2.heap.size, 0, none⟩) 4 ((sumB S).map u8c)) := rows_sum (heap_alloc_new _ _)); (have hzN : Hid (w1.heap.size ≤ (w2.alloc (objSum S)).heap.size) := by (show _ ≤ _); have := hbN.out.size; rw [World.size_alloc] at this; omega))
    | (at_builtin; refine wpList_app rfl (.tmp 18) (.tmp 19) 32 rfl w1.heap.size 5 i5 _ 1 1 Try.underlying32 hi5 hz5 hs5 hb5 rfl (by decide) (some ⟨w1.heap.size, 0, none⟩) 4 (magW.map u8c) rfl hoN.out (some ⟨w2.heap.size, 0, none⟩) 4 ((sumB S).map u8c) rfl hrN.out (u8_len _) (u8_one _) (by unfold maxLen; simp [sumB]) (by simp [sumB]) hzN.out ?_; intro va vc w3 ho3 hk3 hB3 hbl3; (have b3 : Below w1.heap.size w1 w3 := below_keep (bthen hA hbN.out) hzN.out hB3); (have B3 := bthen B1 b3); (have hz3 : Hid (w3.heap[w.heap.size]? = some (objWi M pa pc)) := (b3.block _ (Array.getElem?_eq_some_iff.mp hz1.out).1).trans hz1.out))
    | (go_at_call 22; (with_reducible refine (cF _).mono ?_); rintro e w4 ⟨B, rfl, hf4, hb4⟩))
  have hs0 : Hid (RwS w w4 M pa pc B (magW ++ sumB S) va vc) := ⟨(hb4.block _ (Array.getElem?_eq_some_iff.mp hz3.out).1).trans hz3.out, hf4, hpH.out _ (bthen B3 hb4), own_lower (own_on (by rw [List.map_append]; exact ho3) hb4) B1.size, bt_mag S hS2.out.1, bthen B3 hb4⟩
  clear hf4 hb4 hz3 B3 b3 hbl3 hk3 hB3 ho3 hzN hrN hoN hbN hO1 hA hz1 B1 hb1 hb2 cR cX cF hpH hz huW hiC hb
  go_loopw [4, 24] (fun v u wr => ∃ (i : Nat) (a : Option Addr) (c : Nat), i ≤ 11 ∧ u = .int .i64 (i : Int) ∧ v = .slice a ((magW ++ sumB S) ++ (M.vals.take i).flatMap numB).length c ∧ Hid (RwS w wr M pa pc B ((magW ++ sumB S) ++ (M.vals.take i).flatMap numB) a c)) (fun _ u _ => 11 - (intOf u).toNat)
  case atStart => exact ⟨0, va, vc, by omega, rfl, rfl, by show RwS _ _ _ _ _ _ _ _ _; simpa using hs0.out⟩
  case round =>
    clear hs0
    obtain ⟨i, a, c, hi, rfl, rfl, hs⟩ := hrel
    by_cases hlt : i < 11
    · have hiI : (i : Int) < 11 := by omega
      obtain ⟨x, hx⟩ : ∃ x, M.vals[i]? = some x := ⟨_, List.getElem?_eq_getElem (by show i < 11; exact hlt)⟩
      obtain ⟨b1, o1, ix1, _, c1⟩ := ch_ix hs.out.f i x hx
      have ix1' : ∀ wx, (Instr.indexAt 63 (.slice (some ⟨B, 0, none⟩) 11 11) (.int .i64 (i : Int))).run Try.prog wx = .ok (.pointer (some ⟨b1, o1, none⟩)) wx := ix1
      obtain ⟨x0, x1⟩ := ok_vals hokH.out hx
      have hlen0 : ((M.vals.take i).flatMap numB).length ≤ 110 := by
        have h1 := flat_len10 numB 10 numB_len (M.vals.take i)
        have h2 : (M.vals.take i).length ≤ 11 := take_len _ _
        omega
      have hnx : Hid ((magW ++ sumB S) ++ (M.vals.take (i + 1)).flatMap numB = ((magW ++ sumB S) ++ (M.vals.take i).flatMap numB) ++ numB x) := by
        show _ = _
        rw [List.take_add_one, hx, Option.toList_some, List.flatMap_append, ← List.append_assoc]
        simp
      have hlen : ((magW ++ sumB S) ++ (M.vals.take i).flatMap numB).length ≤ 1000000 := by
        rw [List.length_append]
        have : (magW ++ sumB S).length = 8 := rfl
        omega
      obtain ⟨L, hL⟩ : ∃ L, (magW ++ sumB S) ++ (M.vals.take i).flatMap numB = L := ⟨_, rfl⟩
      rw [hL] at hs hnx hlen ⊢
      have cP := rput_w L _ rfl a c w.heap.size x wr hs.out.o hs.out.t hlen x0 x1
      have hst : Hid (∀ W' g c', Below wr.heap.size wr W' → OwnL W' wr.heap.size 5 1 (some ⟨g, 0, none⟩) c' ((L ++ numB x).map u8c) → RwS w W' M pa pc B (L ++ numB x) (some ⟨g, 0, none⟩) c') := fun W' g c' h1 h2 => hs.out.step h1 h2 hs.out.b.size (bt_app hs.out.t (bt_num x))
      clear hs ix1 hx hlen0 hL
      go_wp2_with (go_at_call 23; (with_reducible refine cP.mono ?_); rintro e w5 ⟨g, c5, rfl, ho5, hb5⟩)
      go_roundw
      case rel => exact ⟨i + 1, _, _, by omega, by go_num, by rw [hnx.out, List.length_append], by rw [hnx.out]; exact hst.out _ _ _ hb5 ho5⟩
      case measure => simp [intOf]; omega
    · have hi11 : i = 11 := by omega
      subst hi11
      have k8 : wr.cell? ⟨w.heap.size, 8, none⟩ = some (.slice pa M.pk.length pc) := (cell_of_row wr _ 8 _ _ _ hs.out.g).trans rfl
      have hvt : M.vals.take 11 = M.vals := rfl
      rw [hvt] at hs ⊢
      have hlenV : (M.vals.flatMap numB).length ≤ 110 := flat_len10 numB 10 numB_len M.vals
      have hlH : ((magW ++ sumB S) ++ M.vals.flatMap numB).length ≤ 118 := by
        rw [List.length_append]
        have : (magW ++ sumB S).length = 8 := rfl
        omega
      have hbody : Hid (M.body = ((magW ++ sumB S) ++ M.vals.flatMap numB) ++ M.pk.flatMap putP) := by
        show _ = _
        rw [body_doc, hS2.out.2]
      obtain ⟨H, hH⟩ : ∃ H, (magW ++ sumB S) ++ M.vals.flatMap numB = H := ⟨_, rfl⟩
      rw [hH] at hs hbody hlH ⊢
      have hsH : Hid (RwS w wr M pa pc B H a c) := hs.out
      have hfew := ok_few hokH.out
      clear hs hlenV hH hvt
      go_wp2_with fail
      clear k8
      go_loopw [4, 36] (fun v u wr => ∃ (j : Nat) (a : Option Addr) (c : Nat), j ≤ M.pk.length ∧ u = .int .i64 (j : Int) ∧ v = .slice a (H ++ (M.pk.take j).flatMap putP).length c ∧ Hid (RwS w wr M pa pc B (H ++ (M.pk.take j).flatMap putP) a c)) (fun _ u _ => M.pk.length - (intOf u).toNat)
      case atStart => exact ⟨0, a, c, Nat.zero_le _, rfl, by simp, by show RwS _ _ _ _ _ _ _ _ _; simpa using hsH.out⟩
      case round =>
        clear hsH
        obtain ⟨j, a, c, hj, rfl, rfl, hs⟩ := hrel
        have hlen0 : ((M.pk.take j).flatMap putP).length ≤ 20 * 256 := by
          have h1 := flat_len10 putP 20 (fun p => by have := numB_len p.1; have := numB_len p.2; rw [List.length_append]; omega) (M.pk.take j)
          have h2 : (M.pk.take j).length ≤ M.pk.length := take_len _ _
          omega
        have hlen : (H ++ (M.pk.take j).flatMap putP).length ≤ 6000 := by rw [List.length_append]; omega
        by_cases hlt2 : j < M.pk.length
        · have hjI : (j : Int) < (M.pk.length : Int) := by omega
          obtain ⟨p, hp⟩ : ∃ p, M.pk[j]? = some p := ⟨_, List.getElem?_eq_getElem hlt2⟩
          obtain ⟨b1, o1, ix1, _, c1, c2⟩ := pk_ix hs.out.p j p hp
          obtain ⟨⟨p0, p1⟩, p2, p3⟩ := ((ok_doc M).mp hokH.out).2.1 p (List.mem_of_getElem? hp)
          have hnx : Hid (H ++ (M.pk.take (j + 1)).flatMap putP = (H ++ (M.pk.take j).flatMap putP ++ numB p.1) ++ numB p.2) := by
            show _ = _
            rw [List.take_add_one, hp, Option.toList_some, List.flatMap_append]
            simp [putP]
          obtain ⟨L, hL⟩ : ∃ L, H ++ (M.pk.take j).flatMap putP = L := ⟨_, rfl⟩
          rw [hL] at hs hnx hlen ⊢
          have hA := boxed wr (.cells #[.int .i64 p.1, .int .i64 p.2] 66)
          have hs1 := hs.out.later hA
          have hz9 := heap_alloc_new wr (.cells #[.int .i64 p.1, .int .i64 p.2] 66)
          have n0 : (wr.alloc (.cells #[.int .i64 p.1, .int .i64 p.2] 66)).cell? ⟨wr.heap.size, 0, none⟩ = some (.int .i64 p.1) := (cell_of_row _ _ 0 _ _ _ hz9).trans rfl
          have hz9H : Hid ((wr.alloc (.cells #[.int .i64 p.1, .int .i64 p.2] 66)).heap[wr.heap.size]? = some (.cells #[.int .i64 p.1, .int .i64 p.2] 66)) := hz9
          have cP := rput_w L _ rfl a c w.heap.size p.1 _ hs1.o hs1.t (by omega) p0 (by omega)
          have hl1 : (L ++ numB p.1).length ≤ 1000000 := by have := numB_len p.1; rw [List.length_append]; omega
          have hst : Hid (∀ W' g c', Below (wr.alloc (.cells #[.int .i64 p.1, .int .i64 p.2] 66)).heap.size (wr.alloc (.cells #[.int .i64 p.1, .int .i64 p.2] 66)) W' → OwnL W' (wr.alloc (.cells #[.int .i64 p.1, .int .i64 p.2] 66)).heap.size 5 1 (some ⟨g, 0, none⟩) c' ((L ++ numB p.1).map u8c) → RwS w W' M pa pc B (L ++ numB p.1) (some ⟨g, 0, none⟩) c') := fun W' g c' h1 h2 => hs1.step h1 h2 hs1.b.size (bt_app hs1.t (bt_num _))
          have hst2 : Hid (∀ W1 W' a1 c1 g c', RwS w W1 M pa pc B (L ++ numB p.1) a1 c1 → Below W1.heap.size W1 W' → OwnL W' W1.heap.size 5 1 (some ⟨g, 0, none⟩) c' ((L ++ numB p.1 ++ numB p.2).map u8c) → RwS w W' M pa pc B (L ++ numB p.1 ++ numB p.2) (some ⟨g, 0, none⟩) c') := fun W1 W' a1 c1 g c' h0 h1 h2 => h0.step h1 h2 h0.b.size (bt_app h0.t (bt_num _))
          have p3' : p.2 ≤ 65536 := by omega
          clear hs hs1 hz9 hp hlen0 hL
          go_wp2_with (first
            | (go_at_call 23; first
                | ((with_reducible refine cP.mono ?_); rintro e w5 ⟨g, c5, rfl, ho5, hb5⟩; (have hs5 := hst.out _ _ _ hb5 ho5); (have n1 : w5.cell? ⟨wr.heap.size, 1, none⟩ = some (.int .i64 p.2) := (cell_of_row _ _ 1 _ _ _ ((hb5.block _ (Array.getElem?_eq_some_iff.mp hz9H.out).1).trans hz9H.out)).trans rfl); (have cQ := rput_w (L ++ numB p.1) (L.length + (numB p.1).length) (by rw [List.length_append]) (some ⟨g, 0, none⟩) c5 w.heap.size p.2 w5 hs5.o hs5.t hl1 p2 p3'); (have hs5H : Hid _ := hs5); clear hs5 ho5)
                | ((with_reducible refine cQ.mono ?_); rintro e w6 ⟨g6, c6, rfl, ho6, hb6⟩)))
          go_roundw
          case rel => exact ⟨_, _, _, _, _, _, _, _, _, _, _, _, _, _, _, _, _, ⟨j + 1, _, _, by omega, by go_num, by rw [hnx.out, List.length_append, List.length_append], by rw [hnx.out]; exact hst2.out _ _ _ _ _ _ hs5H.out hb6 ho6⟩, rfl⟩
          case measure => simp [intOf]; omega
        · have hje : j = M.pk.length := by omega
          subst hje
          rw [List.take_length, ← hbody.out] at hs hlen ⊢
          have hX : sumOf (fl M.body) M.body.length < 4294967296 := sumOf_lt _ _
          have hbyt : Hid (M.bytes = M.body ++ sumB (sumOf (fl M.body) M.body.length)) := rfl
          have kS : Calls Try.prog 24 #[.slice a M.body.length c] wr fun e w' => e = .returned (.int .u32 ((sumOf (fl M.body) M.body.length : Nat) : Int)) ∧ w' = wr := octet.refsum_any a _ c _ wr (rows_row (own_rows hs.out.o (u8_len _)) hs.out.t)
          generalize M.body = E at *
          generalize sumOf (fl E) E.length = X at *
          have kX : Calls Try.prog 21 #[.int .u32 (X : Int)] wr _ := octet.reffixed_any _ (by omega) (by omega) wr
          go_wp2_with (first
            | (go_at_call 24; (with_reducible refine kS.mono ?_); rintro e w' ⟨rfl, hw⟩; replace hw := hw.symm; subst hw)
            | (go_at_call 21; (with_reducible refine kX.mono ?_); rintro e w7 ⟨rfl, hb7⟩; (have hbN : Hid (Below wr.heap.size wr (w7.alloc (objSum X))) := bthen hb7 (boxed _ _)); (have hoN : Hid (OwnL (w7.alloc (objSum X)) w.heap.size 5 1 a c (E.map u8c)) := own_on hs.out.o hbN.out); (have hrN : Hid (Rows (w7.alloc (objSum X)) 1 (some ⟨w7.heap.size, 0, none⟩) 4 ((sumB X).map u8c)) := rows_sum (heap_alloc_new _ _)); (have hzN : Hid (w.heap.size ≤ (w7.alloc (objSum X)).heap.size) := Nat.le_trans hs.out.b.size hbN.out.size))
            | (at_builtin; refine wpList_app rfl (.tmp 54) (.tmp 55) 32 rfl w.heap.size 5 i5 _ 1 1 Try.underlying32 hi5 hz5 hs5 hb5 rfl (by decide) a c (E.map u8c) (by rw [List.length_map]; rfl) hoN.out (some ⟨w7.heap.size, 0, none⟩) 4 ((sumB X).map u8c) rfl hrN.out (u8_len _) (u8_one _) (by unfold maxLen; simp [sumB]; omega) (by simp [sumB]; omega) hzN.out ?_; intro va8 vc8 w8 ho8 hk8 hB8 hbl8))
          go_ret2
          have b8 : Below w.heap.size w w8 := below_keep (bthen hs.out.b hbN.out) hzN.out hB8
          refine ⟨va8, vc8, ?_, ?_, b8⟩
          · rw [hbyt.out]; simp [sumB]
          · rw [hbyt.out, List.map_append]; exact ho8
end
end Go.Proofs.Ytikkgfmhnmoalaa.pg
/- Every Write of a witness. -/
namespace Go.Proofs.Ytikkgfmhnmoalaa.pg
open Go.ChangeShapes Go.WideShapes Go.ChangeAt Go.RowKit
set_option linter.unusedVariables false
set_option linter.unusedSimpArgs false
set_option maxRecDepth 100000
theorem WitIn.later {w w' : World} {M : Wi} {pa : Option Addr} {pc : Nat} (h : WitIn w M pa pc) (hb : Below w.heap.size w w') : WitIn w' M pa pc :=
  ⟨h.r.later hb, h.b.imp_left fun k b q => Nat.lt_of_lt_of_le (k b q) hb.size, h.s0, h.s1, h.v⟩
section
variable {w : World}
set_option maxHeartbeats 4000000 in
theorem writes_walk (M : Wi) (pa : Option Addr) (pc : Nat) (L : List Nat) (E : Int) (hE0 : Hid (E = 0 ∨ E = 1)) (cW : ∀ wx, Below w.heap.size w wx → Calls Try.prog 7 #[.agg (M.cells pa pc).toArray] wx fun e w' => ∃ va vc, e = .returned (.tuple #[.slice va L.length vc, .int .i64 E]) ∧ BytesL w' va vc L ∧ Below wx.heap.size wx w')
    (cV : ∀ wx, Below w.heap.size w wx → Calls Try.prog 8 #[.agg (M.cells pa pc).toArray] wx fun e w' => ∃ va vc, e = .returned (.tuple #[.slice va L.length vc, .int .i64 E]) ∧ BytesL w' va vc L ∧ Below wx.heap.size wx w') : Calls Try.prog 3 #[.agg (M.cells pa pc).toArray] w fun e w' => e = .returned (.bool true) ∧ Below w.heap.size w w' := by
  have hb := boxed w (objWi M pa pc)
  have hz : Hid ((w.alloc (objWi M pa pc)).heap[w.heap.size]? = some (objWi M pa pc)) := heap_alloc_new _ _
  have huW : Hid (Try.prog.underlying 31 = _) := Try.underlying31
  have hiC : Hid ((Try.prog.info? 31).map (·.size) = some (M.cells pa pc).toArray.size) := infoW12
  have cS : ∀ wx, Calls Try.prog 10 #[] wx _ := fun wx => smallW_any wx
  have hEE : (E == E) = true := by simp
  go_enter Try.func3, Try.ntmps3
  go_wp2_with (first
    | (refine wpList_load_row rfl 31 _ rfl w.heap.size rfl _ _ _ _ hz.out huW.out rfl hiC.out ?_)
    | (refine wpList_load_row rfl 31 _ rfl w.heap.size rfl _ _ _ _ hz1.out huW.out rfl hiC.out ?_)
    | (go_at_call 7; (with_reducible refine (cW _ hb).mono ?_); rintro e w1 ⟨va, vc, rfl, ho1, hb1⟩; (have B1 := bthen hb hb1); (have hz1 : Hid (w1.heap[w.heap.size]? = some (objWi M pa pc)) := (hb1.block _ (by rw [World.size_alloc]; omega)).trans hz.out))
    | (go_at_call 8; (with_reducible refine (cV _ B1).mono ?_); rintro e w2 ⟨ua, uc, rfl, ho2, hb2⟩; (have B2 := bthen B1 hb2); (have cZ := same_bytes L va ua vc uc w2 (ho1.later hb2) ho2))
    | (go_at_call 9; (with_reducible refine cZ.mono ?_); rintro e w3 ⟨rfl, h3⟩; rw [h3])
    | (go_at_call 10; (with_reducible refine (cS _).mono ?_); rintro e w4 ⟨rfl, hb4⟩))
  go_ret
  exact ⟨rfl, bthen B2 hb4⟩
end
theorem bytesL_nil (w : World) : BytesL w none 0 [] := ⟨⟨Nat.le_refl _, by decide, fun _ => ⟨rfl, rfl⟩, .inl rfl⟩, fun b hb => by simp at hb⟩
theorem writes_row (M : Wi) (pa : Option Addr) (pc : Nat) (w : World) (hin : WitIn w M pa pc) : Calls Try.prog 3 #[.agg (M.cells pa pc).toArray] w fun e w' => e = .returned (.bool true) ∧ Below w.heap.size w w' := by
  rcases Bool.eq_false_or_eq_true M.ok with hok | hok
  · refine writes_walk M pa pc M.bytes 0 (.inl rfl) (fun wx h => ?_) (fun wx h => ?_)
    · refine (write_ok M pa pc wx (hin.later h).r (hin.later h).b hin.s0 hin.s1 hok).mono ?_
      rintro e w' ⟨va, vc, rfl, ho, hb⟩
      exact ⟨va, vc, rfl, own_bytes ho (bt_bytes M hin.s0 hin.s1), hb⟩
    · refine (rwrite_ok M pa pc (hin.later h) hok).mono ?_
      rintro e w' ⟨va, vc, rfl, ho, hb⟩
      exact ⟨va, vc, rfl, own_bytes ho (bt_bytes M hin.s0 hin.s1), hb⟩
  · refine writes_walk M pa pc [] 1 (.inr rfl) (fun wx h => ?_) (fun wx h => ?_)
    · refine (write_bad M pa pc wx (hin.later h).r (hin.later h).b hok).mono ?_
      rintro e w' ⟨rfl, hb⟩
      exact ⟨none, 0, rfl, bytesL_nil _, hb⟩
    · refine (rwrite_bad M pa pc (hin.later h) hok).mono ?_
      rintro e w' ⟨rfl, hb⟩
      exact ⟨none, 0, rfl, bytesL_nil _, hb⟩
end Go.Proofs.Ytikkgfmhnmoalaa.pg
