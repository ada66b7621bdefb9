/- OctetPuts answers true for every list of bytes b, every number x and every number with a sign y: Put, PutInt and Size answer what the document's own answer; what is handed in stays as it is, its spare room too, and shares no memory with the answers, nor do these with each other. No condition beside the given row's own. The frame round the walk was written by the kit's proof-skeleton; the walk is ours. -/
import Derived.Test.YtecimplpfghikaaRows
import Derived.WalkKit
import Derived.ProofKit
import Derived.OpenShut
import Derived.ShutString
import Derived.ChangeOld
import Derived.Below
import Derived.Test.YtecimplpfghikaaBack
import Derived.Test.YtecimplpfghikaaRefPutB
import Derived.Test.YtecimplpfghikaaSame
import Derived.WalkSpells
import Derived.WalkLawsBesides
import Derived.SizedLaws
namespace Go.Proofs.Ytecimplpfghikaa.octetPuts
open Go.ChangeShapes Go.WideShapes Go.ChangeAt Go.RowKit
open Go.ChangeMaps (open_string shut_string)
open wrapped octet
set_option linter.unusedVariables false

theorem own : ownKnob Try.prog.godebug = none := by kernel_rfl
theorem laidOut : laidOutB Try.prog = true := by kernel_rfl

/-- WHAT THE WALK IS TOLD OF A SLICE OF INTEGERS THAT CAME IN: it is nil; or it leads to a row of 'cap' cells, the numbers 'zs' (the first 'len' are its elements, the rest its spare room), each fitting its kind. -/
def IsRow (k : IntKind) (w : World) (a : Option Addr) (len cap : Nat) (zs : List Int) : Prop :=
  (a = none ∧ len = 0 ∧ cap = 0 ∧ zs = []) ∨
  ∃ x, a = some x ∧ len ≤ cap ∧ cap ≤ maxLen ∧ zs.length = cap ∧ (∀ i, i < zs.length → w.cell? (x.add i) = some (.int k (zs.getD i 0))) ∧ ∀ n ∈ zs, (Lit.int k n).wf = true

theorem row_in {w : World} {a : Option Addr} {len cap : Nat} {zs : List Int} (h : IsRow .u8 w a len cap zs) : Row w a len (bytAt zs) ∧ (a = none → len = 0 ∧ cap = 0) ∧ len ≤ cap := by
  rcases h with ⟨rfl, rfl, rfl, rfl⟩ | ⟨x, hx, hl, hm, hz, hc, hw⟩
  · exact ⟨⟨by omega, fun i => Nat.mod_lt _ (by decide), .inl rfl⟩, fun _ => ⟨rfl, rfl⟩, Nat.le_refl _⟩
  · exact ⟨row_of hl hm hz x hx hc hw, fun h => (by rw [hx] at h; cases h), hl⟩
theorem wpList_append_fits_g {P : Program} (w : World) {ops : Array Oper} {rest : List Oper} {o : Oper} {a : Act} {Q : Exit → Act → World → Prop}
    (hg : Region.wanted o (yielded ops a.tmps) = true) (s x : Operand) (t : TypeId) (hop : o.op = Op.call { callee := Callee.builtin Builtin.append, args := #[s, x], argTypes := #[t, t] })
    (base : Nat) (e : TypeId) (i : TypeInfo) (size : Nat) (h1 : P.underlying t = some (.slice e)) (h2 : P.info? e = some i) (h4 : i.size = size)
    (g k cap : Nat) (xs : List Value) (hs : a.eval s = .slice (some ⟨g, 0, none⟩) k cap) (hown : w.ownsRow base e size (.slice (some ⟨g, 0, none⟩) k cap) k xs) (ad : Addr) (m c : Nat) (news : List Value) (hx : a.eval x = .slice (some ad) m c) (hn : news.length = m * size)
    (hc : ∀ j u, news[j]? = some u → w.cell? (ad.add j) = some u) (h1c : ∀ u ∈ news, u.oneCell' = true) (b1 : k + m ≤ cap)
    (hK : ∀ w', w'.ownsRow base e size (.slice (some ⟨g, 0, none⟩) (k + m) cap) (k + m) (xs ++ news) → w.grownBy w' (some g) → wpList P ops Q rest (a.put o.dst (.slice (some ⟨g, 0, none⟩) (k + m) cap)) w') :
    wpList P ops Q (o :: rest) a w := by
  refine wpList_step fun K hK' => ?_
  rw [if_pos hg]
  obtain ⟨w', hrun, r1, r2⟩ := run_append_fits (P := P) w base t o.type e i size h1 h2 h4 g k cap xs hown ad m c news hn hc h1c b1
  unfold Oper.wp
  simp [execOp, hop, resolve, invoke, builtin, hs, hx, hrun, Result.andThen]
  exact hK' _ _ (hK w' r1 r2)
theorem new_cells (w : World) (l : List Value) (t : TypeId) (j : Nat) (u : Value) (hj : l[j]? = some u) : (w.alloc (.cells l.toArray t)).cell? ((⟨w.heap.size, 0, none⟩ : Addr).add j) = some u := by
  have h := cell_of_row (w.alloc (.cells l.toArray t)) w.heap.size j l.toArray t (0, 0) (heap_alloc_new w _)
  have e : ((⟨w.heap.size, 0, none⟩ : Addr).add j) = ⟨w.heap.size, j, none⟩ := by
    by_cases h0 : j = 0
    · subst h0; rfl
    · simp [Addr.add, h0]
  rw [e, h]
  simpa using hj
/-- The three bytes of the spare room. -/
def t3 (i : Nat) : Nat := 201 + i % 3
theorem t3_lt (i : Nat) : t3 i < 256 := by unfold t3; omega
theorem t3_bl : [Value.int .u8 201, Value.int .u8 202, Value.int .u8 203] = bl t3 3 := rfl
theorem room_row {w : World} {base g n c : Nat} {f h : Nat → Nat} (ho : Owns w base g (n + 3) c (cat f n h)) (hn : n ≤ 9223372036854775807) (hf : ∀ i, f i < 256) : Row w (some ⟨g, 0, none⟩) n f :=
  ⟨hn, hf, .inr ⟨g, 0, rfl, fun i hi => by
    rw [Nat.zero_add, World.ownsRow.cellAt ho i (by omega), bl_get _ _ _ (by omega)]
    unfold cat; rw [if_pos hi]⟩⟩
theorem shape {w : World} {base n : Nat} {v : Value} {xs : List Value} (h : w.ownsRow base 5 1 v n xs) (hn : 0 < n) : ∃ g c, v = mine g n c := by
  rcases h.2 with ⟨_, h0⟩ | ⟨g, c, cur, rfl, hr⟩
  · omega
  · exact ⟨g, c, rfl⟩
/-- What is owned in another block stays. -/
theorem owns_grown {w w' : World} {base g n c r : Nat} {f : Nat → Nat} (h : Owns w base g n c f) (hg : w.grownBy w' (some r)) (hr : g ≠ r) : Owns w' base g n c f := by
  have hl := Owns.block h
  refine ⟨h.1, ?_⟩
  rcases h.2 with h' | ⟨g', cap', cur, h', hbs, hh, hrr⟩
  · exact .inl h'
  · simp only [Value.slice.injEq, Option.some.injEq, Addr.mk.injEq, and_true, true_and] at h'
    obtain ⟨rfl, rfl⟩ := h'
    exact .inr ⟨g, c, cur, rfl, hbs, (hg.block g hl (fun e => hr (by simpa using e))).trans hh, hrr⟩

/-! ### STEP 1: THE WALK: the Go text returns true, AND WRITES NOTHING THAT WAS THERE: 'Below w.heap.size w w'' (Derived/Below.lean: '.refl', '.alloc', '.drew', '.setCell' at a new block, '.trans'). Open each 'IsRow' by 'rcases' AHEAD of 'go_enter'; part every test ahead of the walk. -/
set_option maxRecDepth 100000 in
set_option maxHeartbeats 1000000 in
theorem walk (a0 : Option Addr) (len0 cap0 : Nat) (z0 : List Int) (a1 : Int) (a2 : Int) (w : World) (w0 : IsRow .u8 w a0 len0 cap0 z0) (rch0 : cap0 ≤ 140737488351232) (w1 : (Lit.int .u64 a1).wf = true) (w2 : (Lit.int .i64 a2).wf = true) :
    Calls Try.prog 3 #[.slice a0 len0 cap0, .int .u64 a1, .int .i64 a2] w fun e w' => e = .returned (.bool true) ∧ Below w.heap.size w w' := by
  obtain ⟨lx, hx⟩ := wf_ubounds w1
  obtain ⟨ly, hy⟩ := wf_bounds w2
  obtain ⟨hr, hnn, hlc⟩ := row_in w0
  have hf := hr.2.1
  obtain ⟨i0, hi, hz0, hz1, hz2⟩ := info_parts info5
  obtain ⟨x, hxe⟩ : ∃ x : Nat, a1 = (x : Int) := ⟨a1.toNat, by omega⟩
  obtain ⟨z, hze⟩ : ∃ z : Nat, z = (zg a2).toNat := ⟨_, rfl⟩
  have hzb := zg_bd a2 ly hy
  have hxl : x < 18446744073709551616 := by omega
  have hzl : z < 18446744073709551616 := by omega
  have b1 := szN_bd x hxl
  have b2 := szN_bd z hzl
  have cO : ∀ w', Below w.heap.size w w' → _ := fun w' hb => own_any a0 len0 cap0 (bytAt z0) w' (hr.later hb) hnn (by omega)
  have cP : ∀ w' B, Row w' (some ⟨B, 0, none⟩) len0 (bytAt z0) → _ := fun w' B h => put_any (some ⟨B, 0, none⟩) len0 (len0 + 16) (bytAt z0) x a1 w' h (by omega) hxl hxe
  have cQ : ∀ w' B, Row w' (some ⟨B, 0, none⟩) len0 (bytAt z0) → _ := fun w' B h => putint_any (some ⟨B, 0, none⟩) len0 (len0 + 16) (bytAt z0) a2 z w' h (by omega) ly hy hze
  have cRP : ∀ w', Below w.heap.size w w' → _ := fun w' hb => refput_any a0 len0 cap0 (bytAt z0) x a1 w' (hr.later hb) hnn (by omega) hxl hxe
  have cRI : ∀ w', Below w.heap.size w w' → _ := fun w' hb => refputint_any a0 len0 cap0 (bytAt z0) a2 z w' (hr.later hb) hnn (by omega) ly hy hze
  have cB := fun w' => refbytes_any x a1 w' hxl hxe
  have cS := size_any x hxl
  rw [← hxe] at cS
  have cf1 := cat_lt (bytAt z0) (gr x) len0 hf (gr_lt x)
  have cf2 := cat_lt (bytAt z0) (gr z) len0 hf (gr_lt z)
  have cf3 := cat_lt (bytAt z0) t3 len0 hf t3_lt
  have cE : ∀ (F : Nat → Nat) (hF : ∀ i, F i < 256) (m : Nat) (hm : m ≤ 9223372036854775807) (w' : World) (p1 g1 c1 p2 g2 c2 : Nat), Owns w' p1 g1 m c1 F → Owns w' p2 g2 m c2 F → Calls Try.prog 12 #[mine g1 m c1, mine g2 m c2] w' fun e w'' => e = .returned (.bool true) ∧ w'' = w' :=
    fun F hF m hm w' p1 g1 c1 p2 g2 c2 h1 h2 => same_any _ _ m m c1 c2 F F w' (Owns.row h1 hm hF) (Owns.row h2 hm hF) true ((sameB_iff _ _ _ _ hF hF).2 ⟨rfl, fun _ _ => rfl⟩)
  have rr : ∀ (w' : World) (base g c : Nat), Owns w' base g (len0 + 3) c (cat (bytAt z0) len0 t3) → Row w' (some ⟨g, 0, none⟩) len0 (bytAt z0) := fun w' base g c h => room_row h hr.1 hf
  have hlI : (len0 : Int) ≤ 140737488351232 := by omega
  have e3 : ∀ w' : World, w'.ownsRow w.heap.size 5 1 (mine w.heap.size (len0 + 3) (len0 + 16)) (len0 + 3) (bl (bytAt z0) len0 ++ [Value.int .u8 201, Value.int .u8 202, Value.int .u8 203]) → Owns w' w.heap.size w.heap.size (len0 + 3) (len0 + 16) (cat (bytAt z0) len0 t3) := fun w' h => by rw [t3_bl, bl_cat] at h; exact h
  have e3' : ∀ (w' : World) (b : Nat), w'.ownsRow b 5 1 (mine b (len0 + 3) (len0 + 16)) (len0 + 3) (bl (bytAt z0) len0 ++ [Value.int .u8 201, Value.int .u8 202, Value.int .u8 203]) → Owns w' b b (len0 + 3) (len0 + 16) (cat (bytAt z0) len0 t3) := fun w' b h => by rw [t3_bl, bl_cat] at h; exact h
  have c3 : ∀ (w' : World) (j : Nat) (u : Value), [Value.int .u8 201, Value.int .u8 202, Value.int .u8 203][j]? = some u → (w'.alloc (.cells #[Value.int .u8 201, Value.int .u8 202, Value.int .u8 203] 5)).cell? ((⟨w'.heap.size, 0, none⟩ : Addr).add j) = some u := fun w' j u h => new_cells w' _ 5 j u h
  have o3 : ∀ u ∈ [Value.int .u8 201, Value.int .u8 202, Value.int .u8 203], u.oneCell' = true := by rw [t3_bl]; exact bl_one t3 3
  have n1 : ∀ (w' : World), (cat (bytAt z0) len0 t3) = (cat (bytAt z0) len0 t3) := fun _ => rfl
  generalize szN x = S1 at *
  generalize szN z = S2 at *
  generalize cat (bytAt z0) len0 (gr x) = F1 at *
  generalize cat (bytAt z0) len0 (gr z) = F2 at *
  generalize cat (bytAt z0) len0 t3 = F3 at *
  generalize gr x = g0 at *
  generalize bytAt z0 = f0 at *
  have hS1 : (1 : Int) ≤ S1 ∧ (S1 : Int) ≤ 10 := by omega
  have hS2 : (1 : Int) ≤ S2 ∧ (S2 : Int) ≤ 10 := by omega
  clear n1 w0 w1 w2 rch0 hlc hnn hr hf hzl hxl hze hxe hzb
  go_enter Try.func3, Try.ntmps3
  go_wp2_with (first
    | (go_at_call 9; with_reducible refine (cO w (Below.refl _ _)).mono ?_; rintro e w1 ⟨rfl, ho1, hb1⟩)
    | (at_builtin; refine wpList_append_fits _ rfl (.tmp 13) (.tmp 14) 22 rfl w.heap.size 5 i0 1 Try.underlying22 hi hz1 w.heap.size len0 (len0 + 16) _ rfl (ho1.alloc _) ⟨w1.heap.size, 0, none⟩ 3 3 [Value.int .u8 201, Value.int .u8 202, Value.int .u8 203] rfl rfl (c3 w1) o3 (by omega) ?_; intro w2 ho2 hg2; have hr2 := e3 w2 ho2; have hb2 : Below w.heap.size w w2 := (hb1.alloc hb1.size _).grown hg2 (by simp; have := hb1.size; omega) (fun k e => by simp at e; omega); clear ho2 hg2 ho1)
    | (go_at_call 10; with_reducible refine (cP w2 _ (rr _ _ _ _ hr2)).mono ?_; rintro e w3 ⟨rfl, hp3, hb3⟩; have hr3 := Owns.later hr2 hb3; have hbw3 := hb2.trans (hb3.mono hb2.size))
    | (go_at_call 11; with_reducible refine (cQ w3 _ (rr _ _ _ _ hr3)).mono ?_; rintro e w4 ⟨rfl, hq4, hb4⟩; have hr4 := Owns.later hr3 hb4; have hp4 := Owns.later hp3 hb4; have hbw4 := hbw3.trans (hb4.mono hbw3.size))
    | (go_at_call 13; with_reducible refine (cRP w4 hbw4).mono ?_; rintro e w5 ⟨g5, c5, rfl, hx5, hb5⟩; have hr5 := Owns.later hr4 hb5; have hp5 := Owns.later hp4 hb5; have hq5 := Owns.later hq4 hb5; have hbw5 := hbw4.trans (hb5.mono hbw4.size))
    | (go_at_call 12; with_reducible refine (cE F1 cf1 (len0 + S1) (by omega) w5 _ _ _ _ _ _ hp5 hx5).mono ?_; rintro e w' ⟨rfl, hw⟩; replace hw := hw.symm; subst hw)
    | (go_at_call 14; with_reducible refine (cRI w5 hbw5).mono ?_; rintro e w6 ⟨g6, c6, rfl, hx6, hb6⟩; have hr6 := Owns.later hr5 hb6; have hp6 := Owns.later hp5 hb6; have hq6 := Owns.later hq5 hb6; have hbw6 := hbw5.trans (hb6.mono hbw5.size))
    | (go_at_call 12; with_reducible refine (cE F2 cf2 (len0 + S2) (by omega) w6 _ _ _ _ _ _ hq6 hx6).mono ?_; rintro e w' ⟨rfl, hw⟩; replace hw := hw.symm; subst hw)
    | (go_at_call 15; with_reducible refine (cS _).mono ?_; rintro e w' ⟨rfl, hw⟩; replace hw := hw.symm; subst hw)
    | (go_at_call 16; with_reducible refine (cB w6).mono ?_; rintro e w7 ⟨g7, c7, rfl, hx7, hb7⟩; have hr7 := Owns.later hr6 hb7; have hp7 := Owns.later hp6 hb7; have hq7 := Owns.later hq6 hb7; have hbw7 := hbw6.trans (hb7.mono hbw6.size)))
  have hB1 := Owns.block hr2
  have hB3 := Owns.block hp3
  have hs7 := hb7.size
  clear hp3 hp4 hp5 hp6 hq4 hq5 hq6 hr2 hr3 hr4 hr5 hr6 hx5 hx6 hx7 hb1 hb2 hb3 hb4 hb5 hb6 hb7 hbw3 hbw4 hbw5 hbw6 cP cQ cRP cB cS
  go_loopw [50] (fun i wr => ∃ (k : Nat) (xs : List Value), k ≤ len0 + S1 ∧ i = .int .i64 k ∧ wr.ownsRow w2.heap.size 5 1 (mine w2.heap.size (len0 + S1) (len0 + S1)) (len0 + S1) xs ∧ Owns wr w3.heap.size w3.heap.size (len0 + S2) (len0 + S2) F2 ∧ Owns wr w.heap.size w.heap.size (len0 + 3) (len0 + 16) F3 ∧ Below w.heap.size w wr) (fun i _ => len0 + S1 - (intOf i).toNat)
  case atStart => exact ⟨0, _, by omega, rfl, hp7, hq7, hr7, hbw7⟩
  case round =>
    obtain ⟨k, xs, hk, rfl, hp, hq, hrm, hbl⟩ := hrel
    by_cases hkl : k < len0 + S1
    · obtain ⟨u, hu⟩ : ∃ u, xs[k]? = some u := ⟨_, List.getElem?_eq_getElem (by have := hp.1; omega)⟩
      have hc := World.ownsRow.cellAt hp k (by omega)
      rw [hu] at hc
      have hfz := World.ownsRow.frozenAt hp k
      obtain ⟨hst, hsg⟩ := World.ownsRow.stored hp k (.int .u8 7)
      have hq' := owns_grown hq hsg (by omega)
      have hrm' := owns_grown hrm hsg (by omega)
      have hbl' : Below w.heap.size w (wr.setCell ⟨w2.heap.size, k, none⟩ (.int .u8 7)) := hbl.setCell (by show w.heap.size ≤ w2.heap.size; omega) _
      have hklI : (k : Int) < (len0 : Int) + (S1 : Int) := by omega
      clear hp hq hrm hbl hsg hu cO cRI cE rr e3 e3' c3 o3 hp7 hq7 hr7 hbw7
      go_wp2
      go_roundw
      case rel => exact ⟨k + 1, _, by omega, by go_num, hst, hq', hrm', hbl'⟩
      case measure => simp [intOf]; omega
    · have hkl2 : k = len0 + S1 := by omega
      subst hkl2
      have hsz := hbl.size
      have hBw := Owns.block hq
      clear hp7 hq7 hr7 hbw7
      go_wp2_with (first
        | (at_builtin; (refine wpList_append_own _ rfl (.tmp 57) (.tmp 58) 22 rfl w2.heap.size 5 i0 (.int .u8 0) 1 1 Try.underlying22 hi hz0 hz1 hz2 rfl (by decide) (mine w2.heap.size (len0 + S1) (len0 + S1)) (len0 + S1) xs rfl (hp.alloc _) ⟨wr.heap.size, 0, none⟩ 4 4 [Value.int .u8 7, Value.int .u8 7, Value.int .u8 7, Value.int .u8 7] rfl rfl (new_cells wr [Value.int .u8 7, Value.int .u8 7, Value.int .u8 7, Value.int .u8 7] 5) (by intro u hu; simp at hu; subst hu; rfl) (by unfold maxLen; omega) (by omega) (by simp; omega) ?_; intro v8 w8 ho8 hg8' hn8; have hg8 : World.grownBy _ w8 (some w2.heap.size) := hg8'; obtain ⟨g8, c8, hv8⟩ := shape ho8 (by omega); subst hv8; have hq8 := owns_grown (Owns.later hq ((Below.refl _ wr).alloc (Nat.le_refl _) _)) hg8 (by omega); have hr8 := owns_grown (Owns.later hrm ((Below.refl _ wr).alloc (Nat.le_refl _) _)) hg8 (by omega); have hb8 : Below w.heap.size w w8 := (hbl.alloc hsz _).grown hg8 (by simp; omega) (fun k e => by simp at e; omega); clear ho8 hg8 hg8' hn8 hp hq hrm hbl))
        | (go_at_call 14; with_reducible refine (cRI w8 hb8).mono ?_; rintro e w9 ⟨g9, c9, rfl, hx9, hb9⟩; have hr9 := Owns.later hr8 hb9; have hq9 := Owns.later hq8 hb9; have hbw9 := hb8.trans (hb9.mono hb8.size))
        | (go_at_call 12; with_reducible refine (cE F2 cf2 (len0 + S2) (by omega) w9 _ _ _ _ _ _ hq9 hx9).mono ?_; rintro e w' ⟨rfl, hw⟩; replace hw := hw.symm; subst hw)
        | (go_at_call 9; with_reducible refine (cO w9 hbw9).mono ?_; rintro e wa ⟨rfl, hoa, hba⟩; have hra := Owns.later hr9 hba; have hbwa := hbw9.trans (hba.mono hbw9.size); have hBa := Owns.block hoa)
        | (at_builtin; (refine wpList_append_fits_g _ rfl (.tmp 68) (.tmp 69) 22 rfl w9.heap.size 5 i0 1 Try.underlying22 hi hz1 w9.heap.size len0 (len0 + 16) _ rfl (hoa.alloc _) ⟨wa.heap.size, 0, none⟩ 3 3 [Value.int .u8 201, Value.int .u8 202, Value.int .u8 203] rfl rfl (c3 wa) o3 (by omega) ?_; intro wb hob hgb; have hrb := e3' wb _ hob; have hrr := owns_grown (Owns.later hra ((Below.refl _ wa).alloc (Nat.le_refl _) _)) hgb (by have := hbw9.size; have := Owns.block hr9; omega); have hbwb : Below w.heap.size w wb := (hbwa.alloc hbwa.size _).grown hgb (by simp; have := hbwa.size; omega) (fun k e => by simp at e; have := hbw9.size; omega); clear hob hgb hoa))
        | (go_at_call 12; with_reducible refine (cE F3 cf3 (len0 + 3) (by omega) wb _ _ _ _ _ _ hrr hrb).mono ?_; rintro e w' ⟨rfl, hw⟩; replace hw := hw.symm; subst hw))
      go_ret
      exact ⟨congrArg (fun b => Ending.returned (.bool b)) (decide_eq_true (by omega)), hbwb⟩

/-! ### THE ROW's STEP: WRITTEN OUT: LEAVE IT -/
set_option maxRecDepth 100000 in
theorem lifted (os : Os) (started : os.Started) (H : Type) (enc : TypeId × Value → H) :
    ReturnsInHanded {} Try.checked os 3 .any (Rows.octetPutsSpec.pre6 enc Try.prog Try.f3 Rows.octetPutsRow.domain false) (Rows.octetPutsSpec.post enc Try.prog Try.f3 false true false false) := by
  refine returnsInHanded_of_change_sized (C := Try.checked) own started (by kernel_rfl) Try.func3
    (ChangeSpec.witness6 (enc := enc) (C := Try.checked) false ⟨#[], #[.slice none 0 0, .int .u64 0, .int .i64 0], []⟩ 8 (by kernel_rfl) (by kernel_rfl) (by kernel_rfl) (by kernel_rfl)) ?_
  intro W base args ds gs before hval0 hW hcnd hsz0 _
  have hval : ∀ (j : Nat) t v, Try.f3.params[j]? = some t → args[j]? = some v → Value.okWide Try.prog W .any base t v := hval0
  have hW' := hW
  obtain ⟨p, q, hA0, hV, rfl, hfz, hnd⟩ := hW
  have hA : DataW.TrodAll enc Try.prog W 0 (fun _ => true) true Try.f3.params.toList args.toList ds p := hA0
  rw [Try.params3] at hA hval
  have hsz : (DataW.weightsEach Try.prog (Try.f3.params.toList ++ Rows.octetPutsSpec.plain.varTypes Try.prog) (ds ++ gs)).all (· ≤ reachBytes) = true := hsz0
  rw [Try.params3] at hsz
  obtain ⟨v0, vs0, d0, ds0, p0, q0, hargs, rfl, rfl, h0, r0⟩ := trodAll_cons hA
  obtain ⟨v1, vs1, d1, ds1, p1, q1, rfl, rfl, rfl, h1, r1⟩ := trodAll_cons r0
  obtain ⟨v2, vs2, d2, ds2, p2, q2, rfl, rfl, rfl, h2, r2⟩ := trodAll_cons r1
  obtain ⟨rfl, rfl, rfl⟩ := trodAll_nil r2
  obtain rfl : args = #[v0, v1, v2] := by cases args; simp_all
  obtain ⟨rfl, rfl⟩ := trodVars_none hV
  obtain ⟨a0, len0, cap0, rfl⟩ := okWide_slice Try.underlying22 (hval 0 22 v0 rfl rfl)
  have k0 := h0
  have lt0 : ∀ x ∈ p0, x.block < W.heap.size := by obtain ⟨m, hm⟩ := k0; exact DataW.trod_lt m _ _ _ hm
  obtain ⟨z0, w0, rch0⟩ : ∃ zs, IsRow .u8 W a0 len0 cap0 zs ∧ cap0 ≤ 140737488351232 := by
    obtain ⟨fuel, hf⟩ := h0
    rcases open_ints Try.underlying22 Try.underlying5 (by kernel_rfl) hf with ⟨hcs, _⟩ | ⟨x, l, c, zs, hcs, _, hl, hm, hz, hx, hcell, hwz⟩
    · simp [Value.cells] at hcs
      obtain ⟨rfl, rfl, rfl⟩ := hcs
      exact ⟨[], .inl ⟨rfl, rfl, rfl, rfl⟩, by omega⟩
    · simp [Value.cells] at hcs
      obtain ⟨rfl, rfl, rfl⟩ := hcs
      have hd : d0 = .slice (lits .u8 (zs.take len0)) (lits .u8 (zs.drop len0)) := congrArg Prod.fst hx
      refine ⟨zs, .inr ⟨_, rfl, hl, hm, by simpa using hz, hcell, hwz⟩, ?_⟩
      have h3 := sized_slice hsz (j := 0) (t := 22) (e := 5) rfl (congrArg some hd) Try.underlying22
      have hb : Try.prog.bytesOf 5 = 1 := by kernel_rfl
      rw [hb] at h3
      simp only [lits, List.length_map, List.length_take, List.length_drop, reachBytes] at h3
      simp only [if_true] at hz
      omega
  obtain ⟨a1, rfl, rfl, rfl, w1⟩ := open_int Try.underlying23 (hval 1 23 v1 rfl rfl) h1
  obtain ⟨a2, rfl, rfl, rfl, w2⟩ := open_int Try.underlying2 (hval 2 2 v2 rfl rfl) h2
  clear hA0 hval0
  refine (walk a0 len0 cap0 z0 a1 a2 W w0 rch0 w1 w2).mono fun e W' ⟨he, bel⟩ => ?_
  subst he
  exact ⟨_, rfl, _, _, _, [], _, [], hW', trodAll_mk1 (shut_bool Try.underlying4 _), (trodAll_cons_mk (Below.trod laidOut (by kernel_rfl) (of_decide_eq_true (by kernel_rfl)) k0 bel lt0) (trodAll_cons_mk (shut_int Try.underlying23 w1) (trodAll_cons_mk (shut_int Try.underlying2 w2) trodAll_mk0))), rfl, bel.frame _, fun h => by cases h⟩

theorem over : Rows.octetPutsRow.holds Try.pinned (OpenSpec.ofChange Rows.octetPutsSpec) :=
  OpenClaim.holds_of_wide 3 Try.f3 rfl rfl rfl rfl rfl rfl rfl ⟨rfl, rfl, rfl, rfl, rfl⟩ rfl rfl rfl rfl rfl (by kernel_rfl) Try.func3 (by kernel_rfl)
    (of_decide_eq_true (by kernel_rfl)) (by unfold Func.isWrapper; first | (rw [if_pos (by decide +kernel)]; kernel_rfl) | (rw [if_neg (by decide +kernel)]; exact ⟨rfl, rfl⟩))
    (fun os started H enc _ => lifted os started H enc)

/-- ████ THE STATEMENT ████ -/
theorem proved : Rows.OctetPutsSaid := over
end Go.Proofs.Ytecimplpfghikaa.octetPuts
namespace Go.Proofs.Ytecimplpfghikaa
theorem octetPuts_holds : Rows.OctetPutsSaid := octetPuts.proved
#print axioms octetPuts_holds
end Go.Proofs.Ytecimplpfghikaa
