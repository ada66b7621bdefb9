/- Keys are the same just of traces that are: CanonKeys, walked. -/
import Derived.Test.YtkadlopcomjonaaDoorM39
import Derived.Lib.Strings
namespace Go.Proofs.YtkadlopcomjonaaDoor.pg
open Go.ChangeShapes Go.WideShapes Go.ChangeAt Go.RowKit Go.Shelf
set_option linter.unusedVariables false
set_option linter.unusedSimpArgs false
set_option maxRecDepth 100000
/-- The library's table of the powers of ten is as its initialiser lays it. -/
def Tab (w : World) : Prop := Lib.TabIs Tryd.prog w "internal/strconv.uint64pow10" .u64 Lib.pow10Tab
theorem Tab.later {w w' : World} (h : Tab w) (hb : Below w.heap.size w w') : Tab w' := by
  unfold Tab Lib.TabIs World.var? at *
  obtain ⟨g, hg⟩ : ∃ g, Tryd.prog.globalNamed "internal/strconv.uint64pow10" = some g := by
    cases hg : Tryd.prog.globalNamed "internal/strconv.uint64pow10" with
    | none => simp [hg] at h
    | some g => exact ⟨g, rfl⟩
  simp only [hg, Option.bind_some] at h ⊢
  have hlt : g < w.heap.size := by
    rcases Nat.lt_or_ge g w.heap.size with h' | h'
    · exact h'
    · simp [Array.getElem?_eq_none h'] at h
  rw [hb.block g hlt]; exact h
theorem Tab.tb {w : World} (h : Tab w) : ∀ wx, Below w.heap.size w wx → TabB wx.heap.size wx := fun wx hb w' hb' => (h.later hb).later hb'
theorem ord_exK {l : List Ev} (hrt : ∀ x ∈ l, rightP x) {B : Nat → Nat → Bool} (hB : Tells (dpf l) B) : ∃ L, OrdL B (gof l) l.length L ∧ L.length = l.length := by
  have key : ∀ k, k ≤ l.length → ∃ L, OrdL B (gof l) l.length L ∧ L.length = k := by
    intro k
    induction k with
    | zero => intro _; exact ⟨[], OrdL.nil _ _ _, rfl⟩
    | succ k ih =>
      intro hk
      obtain ⟨L, h1, h2⟩ := ih (by omega)
      have hd := h1.lin.down hB
      have hc := cnt_memS (n := l.length) L h1.lin.nodup h1.lin.lt
      obtain ⟨i, i1, i2⟩ := free_some (B := B) (miss_some (S := memS L) (n := l.length) (by omega))
      have hm := (freeL_mem hB (ord_ok hrt) (fun k hk => gof_lt hrt hk) hd i).mpr ⟨i1, i2⟩
      cases hf : freeL B (gof l) l.length (cutS (gof l) l.length (memS L)) with
      | nil => rw [hf] at hm; cases hm
      | cons x xs =>
        have hp := freeL_pick hB (ord_ok hrt) (fun k hk => gof_lt hrt hk) hd hf
        exact ⟨L ++ [x], h1.snoc hp, by simp [h2]⟩
  exact key l.length (Nat.le_refl _)
/-- A trace's events in their canonical order. -/
structure CanX (l X : List Ev) : Prop where
  ex : ∃ B L, Tells (dpf l) B ∧ OrdL B (gof l) l.length L ∧ L.length = l.length ∧ laidE l L = X
  rt : ∀ x ∈ X, rightP x
  le : l.length ≤ 256 ∧ ∀ x ∈ l, rightP x
theorem canX_ex {l : List Ev} (hlen : l.length ≤ 256) (hrt : ∀ x ∈ l, rightP x) : ∃ X, CanX l X := by
  obtain ⟨B, hB⟩ := tells_some (dpf l)
  obtain ⟨L, h1, h2⟩ := ord_exK hrt hB
  exact ⟨_, ⟨B, L, hB, h1, h2, rfl⟩, laid_all hrt h1.lin.lt, hlen, hrt⟩
theorem tells_one {d B B' : Nat → Nat → Bool} (h : Tells d B) (h' : Tells d B') : B = B' := by
  funext i j
  rw [Bool.eq_iff_iff, h i j, h' i j]
theorem CanX.one {l X : List Ev} (h : CanX l X) {B : Nat → Nat → Bool} (hB : Tells (dpf l) B) {L : List Nat} (h1 : OrdL B (gof l) l.length L) (h2 : L.length = l.length) : laidE l L = X := by
  obtain ⟨B', L', hB', k1, k2, e⟩ := h.ex
  have : B' = B := tells_one hB' hB
  subst this
  rw [← e, form_one h1 k1 h2 k2]
theorem key_is {l X : List Ev} (h : CanX l X) (la : Option Addr) (lc : Nat) (w : World) (hl : EvsIn w la lc l) (hT : Tab w) :
    Calls Tryd.prog 8 #[.slice la l.length lc] w fun e w' => e = .returned (.tuple #[.string ⟨(keyB X).toArray⟩, .int .i64 0]) ∧ Below w.heap.size w w' := by
  obtain ⟨B, hB⟩ := tells_some (dpf l)
  exact (key_ok l la lc w hl.1 hl.2 h.le.1 h.le.2 hB hT.tb).mono fun e w' ⟨L, he, hq⟩ => ⟨by rw [he, h.one hB hq.out.1 hq.out.2.1], hq.out.2.2⟩
theorem same_is {l m X Y : List Ev} (hX : CanX l X) (hY : CanX m Y) (la ma : Option Addr) (lc mc : Nat) (w : World) (hl : EvsIn w la lc l) (hm : EvsIn w ma mc m) (R : Bool) (hR : R = true ↔ X = Y) :
    Calls Tryd.prog 6 #[.slice la l.length lc, .slice ma m.length mc] w fun e w' => e = .returned (.tuple #[.bool R, .int .i64 0]) ∧ Below w.heap.size w w' := by
  obtain ⟨B, hB⟩ := tells_some (dpf l)
  obtain ⟨B', hB'⟩ := tells_some (dpf m)
  exact same_ok l m la ma lc mc w hl.1 hm.1 hl.2 hm.2 hX.le.1 hX.le.2 hY.le.1 hY.le.2 hB hB' R fun L M k1 k2 k3 k4 => by rw [hX.one hB k1 k2, hY.one hB' k3 k4]; exact hR
theorem evs_later {w w' : World} {a : Option Addr} {c : Nat} {l : List Ev} (h : EvsIn w a c l) (hb : Below w.heap.size w w') : EvsIn w' a c l := ⟨h.1.later hb, h.2⟩
theorem bytes_beqK (a b : ByteArray) : (a.toList == b.toList) = true ↔ a = b := by
  rw [beq_iff_eq]
  constructor
  · intro h
    have ha : a.toList = a.data.toList := Lib.toList_data _
    have hb : b.toList = b.data.toList := Lib.toList_data _
    have h2 : a.data.toList = b.data.toList := ha.symm.trans (h.trans hb)
    cases a
    cases b
    simp only at h2
    rw [Array.toList_inj.mp h2]
  · intro h; rw [h]
theorem hidB {w a b : World} (h : Hid (Below w.heap.size w a)) (k : Below a.heap.size a b) : Hid (Below w.heap.size w b) := bthen h.out k
theorem str_eq {a b : List UInt8} (R : Bool) (h : R = true ↔ a = b) : ((⟨a.toArray⟩ : ByteArray).toList == (⟨b.toArray⟩ : ByteArray).toList) = R := by
  rw [Bool.eq_iff_iff, bytes_beqK, h]
  constructor
  · intro e
    have := congrArg (fun z : ByteArray => z.data.toList) e
    simpa using this
  · intro e; rw [e]
set_option maxHeartbeats 4000000 in
theorem keys_told (na nb nc : Nat) (la lb lc : Option Addr) (ca cb cc : Nat) (w : World) (sa sb : ByteArray) (ab bc ac : Bool) (hs : (sa.toList == sb.toList) = ab) (htr : ab = true → bc = true → ac = true)
    (k1 : ∀ wx, Below w.heap.size w wx → Calls Tryd.prog 11 #[.slice la na ca] wx fun e w' => e = .returned (.int .i64 0) ∧ Below wx.heap.size wx w')
    (k2 : ∀ wx, Below w.heap.size w wx → Calls Tryd.prog 11 #[.slice lb nb cb] wx fun e w' => e = .returned (.int .i64 0) ∧ Below wx.heap.size wx w')
    (k3 : ∀ wx, Below w.heap.size w wx → Calls Tryd.prog 11 #[.slice lc nc cc] wx fun e w' => e = .returned (.int .i64 0) ∧ Below wx.heap.size wx w')
    (y1 : ∀ wx, Below w.heap.size w wx → Calls Tryd.prog 8 #[.slice la na ca] wx fun e w' => e = .returned (.tuple #[.string sa, .int .i64 0]) ∧ Below wx.heap.size wx w')
    (y2 : ∀ wx, Below w.heap.size w wx → Calls Tryd.prog 8 #[.slice lb nb cb] wx fun e w' => e = .returned (.tuple #[.string sb, .int .i64 0]) ∧ Below wx.heap.size wx w')
    (z1 : ∀ wx, Below w.heap.size w wx → Calls Tryd.prog 6 #[.slice la na ca, .slice lb nb cb] wx fun e w' => e = .returned (.tuple #[.bool ab, .int .i64 0]) ∧ Below wx.heap.size wx w')
    (z2 : ∀ wx, Below w.heap.size w wx → Calls Tryd.prog 6 #[.slice lb nb cb, .slice la na ca] wx fun e w' => e = .returned (.tuple #[.bool ab, .int .i64 0]) ∧ Below wx.heap.size wx w')
    (z3 : ∀ wx, Below w.heap.size w wx → Calls Tryd.prog 6 #[.slice lb nb cb, .slice lc nc cc] wx fun e w' => e = .returned (.tuple #[.bool bc, .int .i64 0]) ∧ Below wx.heap.size wx w')
    (z4 : ∀ wx, Below w.heap.size w wx → Calls Tryd.prog 6 #[.slice la na ca, .slice lc nc cc] wx fun e w' => e = .returned (.tuple #[.bool ac, .int .i64 0]) ∧ Below wx.heap.size wx w')
    (z5 : ∀ wx, Below w.heap.size w wx → Calls Tryd.prog 6 #[.slice la na ca, .slice la na ca] wx fun e w' => e = .returned (.tuple #[.bool true, .int .i64 0]) ∧ Below wx.heap.size wx w') :
    Calls Tryd.prog 5 #[.slice la na ca, .slice lb nb cb, .slice lc nc cc] w fun e w' => e = .returned (.bool true) ∧ Below w.heap.size w w' := by
  have hB : Hid (Below w.heap.size w w) := Below.refl _ _
  go_enter Tryd.func5, Tryd.ntmps5
  go_upto_region 3 with (go_at_call 11; (first | (with_reducible refine (k1 _ hB.out).mono ?_); rintro e w1 ⟨rfl, hb1⟩; (have hB := hidB hB hb1); clear hb1 k1 | (with_reducible refine (k2 _ hB.out).mono ?_); rintro e w2 ⟨rfl, hb1⟩; (have hB := hidB hB hb1); clear hb1 k2 | (with_reducible refine (k3 _ hB.out).mono ?_); rintro e w3 ⟨rfl, hb1⟩; (have hB := hidB hB hb1); clear hb1 k3))
  go_upto_region 10 with (first
    | (go_at_call 8; (first | (with_reducible refine (y1 _ hB.out).mono ?_); rintro e w1 ⟨rfl, hb1⟩; (have hB := hidB hB hb1); clear hb1 y1 | (with_reducible refine (y2 _ hB.out).mono ?_); rintro e w2 ⟨rfl, hb1⟩; (have hB := hidB hB hb1); clear hb1 y2))
    | (go_at_call 6; (first | (with_reducible refine (z1 _ hB.out).mono ?_); rintro e w3 ⟨rfl, hb1⟩; (have hB := hidB hB hb1); clear hb1 z1 | (with_reducible refine (z2 _ hB.out).mono ?_); rintro e w4 ⟨rfl, hb1⟩; (have hB := hidB hB hb1); clear hb1 z2 | (with_reducible refine (z3 _ hB.out).mono ?_); rintro e w5 ⟨rfl, hb1⟩; (have hB := hidB hB hb1); clear hb1 z3 | (with_reducible refine (z4 _ hB.out).mono ?_); rintro e w6 ⟨rfl, hb1⟩; (have hB := hidB hB hb1); clear hb1 z4 | (with_reducible refine (z5 _ hB.out).mono ?_); rintro e w7 ⟨rfl, hb1⟩; (have hB := hidB hB hb1); clear hb1 z5)))
  have htH : Hid (ab = true → bc = true → ac = true) := htr
  clear htr
  cases ab <;> cases bc <;> cases ac
  case true.true.false => exact absurd (htH.out rfl rfl) (by decide)
  all_goals
    go_wp2
    go_ret
    exact ⟨rfl, hB.out⟩
set_option maxHeartbeats 1000000 in
theorem keys_out (a b c : List Ev) (la lb lc : Option Addr) (ca cb cc : Nat) (w : World) (ha : EvsIn w la ca a) (hb : EvsIn w lb cb b) (hc : EvsIn w lc cc c) (xa xb xc : Int) (qa : checkP a xa) (qb : checkP b xb) (qc : checkP c xc) (h : xa ≠ 0 ∨ xb ≠ 0 ∨ xc ≠ 0) :
    Calls Tryd.prog 5 #[.slice la a.length ca, .slice lb b.length cb, .slice lc c.length cc] w fun e w' => e = .returned (.bool true) ∧ Below w.heap.size w w' := by
  have k1 : ∀ wx, Below w.heap.size w wx → Calls Tryd.prog 11 #[.slice la a.length ca] wx _ := fun wx hb' => rcheck_any a la ca wx (ha.1.later hb') xa qa
  have k2 : ∀ wx, Below w.heap.size w wx → Calls Tryd.prog 11 #[.slice lb b.length cb] wx _ := fun wx hb' => rcheck_any b lb cb wx (hb.1.later hb') xb qb
  have k3 : ∀ wx, Below w.heap.size w wx → Calls Tryd.prog 11 #[.slice lc c.length cc] wx _ := fun wx hb' => rcheck_any c lc cc wx (hc.1.later hb') xc qc
  have cS : ∀ wx, Calls Tryd.prog 10 #[] wx fun e w' => e = .returned (.bool true) ∧ Below wx.heap.size wx w' := fun wx => small_any wx
  have hB : Hid (Below w.heap.size w w) := Below.refl _ _
  have hcs : (xa != 0) = true ∨ ((xa != 0) = false ∧ (xb != 0) = true) ∨ ((xa != 0) = false ∧ (xb != 0) = false ∧ (xc != 0) = true) := by
    by_cases h1 : xa = 0
    · by_cases h2 : xb = 0
      · have h3 : xc ≠ 0 := by rcases h with h | h | h; exact absurd h1 h; exact absurd h2 h; exact h
        exact .inr (.inr ⟨by simp [h1], by simp [h2], by simpa using h3⟩)
      · exact .inr (.inl ⟨by simp [h1], by simpa using h2⟩)
    · exact .inl (by simpa using h1)
  clear ha hb hc qa qb qc h
  rcases hcs with d | ⟨d, d2⟩ | ⟨d, d2, d3⟩
  all_goals
    go_enter Tryd.func5, Tryd.ntmps5
    go_wp2_with (first
      | (go_at_call 11; (first | (with_reducible refine (k1 _ hB.out).mono ?_); rintro e w1 ⟨rfl, hb1⟩; (have hB := hidB hB hb1); clear hb1 k1 | (with_reducible refine (k2 _ hB.out).mono ?_); rintro e w2 ⟨rfl, hb1⟩; (have hB := hidB hB hb1); clear hb1 k2 | (with_reducible refine (k3 _ hB.out).mono ?_); rintro e w3 ⟨rfl, hb1⟩; (have hB := hidB hB hb1); clear hb1 k3))
      | (go_at_call 10; (with_reducible refine (cS _).mono ?_); rintro e w3 ⟨rfl, hb3⟩; (have hB := hidB hB hb3); clear hb3 cS))
    go_ret
    exact ⟨rfl, hB.out⟩
theorem check_is {l : List Ev} {c : Int} (h : checkP l c) (h0 : c = 0) : l.length ≤ 256 ∧ ∀ x ∈ l, rightP x := by
  subst h0
  rcases h with ⟨_, q⟩ | ⟨_, _, q⟩ | ⟨h1, h2, _⟩
  · omega
  · omega
  · exact ⟨h1, h2⟩
theorem dec_ex (p : Prop) : ∃ R : Bool, R = true ↔ p := by
  by_cases h : p
  · exact ⟨true, ⟨fun _ => h, fun _ => rfl⟩⟩
  · exact ⟨false, ⟨fun q => (by cases q), fun q => absurd q h⟩⟩
theorem ckeys_any (a : List Ev) (la : Option Addr) (ca : Nat) (b : List Ev) (lb : Option Addr) (cb : Nat) (c : List Ev) (lc : Option Addr) (cc : Nat) (w : World) (ha : EvsIn w la ca a) (hb : EvsIn w lb cb b) (hc : EvsIn w lc cc c) (hT : Tab w) :
    Calls Tryd.prog 5 #[.slice la a.length ca, .slice lb b.length cb, .slice lc c.length cc] w fun e w' => e = .returned (.bool true) ∧ Below w.heap.size w w' := by
  obtain ⟨xa, qa⟩ := check_ex a
  obtain ⟨xb, qb⟩ := check_ex b
  obtain ⟨xc, qc⟩ := check_ex c
  by_cases h : xa ≠ 0 ∨ xb ≠ 0 ∨ xc ≠ 0
  · exact keys_out a b c la lb lc ca cb cc w ha hb hc xa xb xc qa qb qc h
  · have e1 : xa = 0 := Classical.byContradiction fun q => h (.inl q)
    have e2 : xb = 0 := Classical.byContradiction fun q => h (.inr (.inl q))
    have e3 : xc = 0 := Classical.byContradiction fun q => h (.inr (.inr q))
    obtain ⟨a1, a2⟩ := check_is qa e1
    obtain ⟨b1, b2⟩ := check_is qb e2
    obtain ⟨c1, c2⟩ := check_is qc e3
    subst e1
    subst e2
    subst e3
    obtain ⟨X, hX⟩ := canX_ex a1 a2
    obtain ⟨Y, hY⟩ := canX_ex b1 b2
    obtain ⟨Z, hZ⟩ := canX_ex c1 c2
    obtain ⟨ab, rab⟩ := dec_ex (X = Y)
    obtain ⟨bc, rbc⟩ := dec_ex (Y = Z)
    obtain ⟨ac, rac⟩ := dec_ex (X = Z)
    refine keys_told a.length b.length c.length la lb lc ca cb cc w _ _ ab bc ac (str_eq ab (rab.trans (keyB_inj hX.rt hY.rt).symm)) (fun q1 q2 => rac.mpr ((rab.mp q1).trans (rbc.mp q2))) ?_ ?_ ?_ ?_ ?_ ?_ ?_ ?_ ?_ ?_
    · exact fun wx hx => rcheck_any a la ca wx (ha.1.later hx) 0 qa
    · exact fun wx hx => rcheck_any b lb cb wx (hb.1.later hx) 0 qb
    · exact fun wx hx => rcheck_any c lc cc wx (hc.1.later hx) 0 qc
    · exact fun wx hx => key_is hX la ca wx (evs_later ha hx) (hT.later hx)
    · exact fun wx hx => key_is hY lb cb wx (evs_later hb hx) (hT.later hx)
    · exact fun wx hx => same_is hX hY la lb ca cb wx (evs_later ha hx) (evs_later hb hx) ab rab
    · exact fun wx hx => same_is hY hX lb la cb ca wx (evs_later hb hx) (evs_later ha hx) ab (rab.trans ⟨Eq.symm, Eq.symm⟩)
    · exact fun wx hx => same_is hY hZ lb lc cb cc wx (evs_later hb hx) (evs_later hc hx) bc rbc
    · exact fun wx hx => same_is hX hZ la lc ca cc wx (evs_later ha hx) (evs_later hc hx) ac rac
    · exact fun wx hx => same_is hX hX la la ca ca wx (evs_later ha hx) (evs_later ha hx) true ⟨fun _ => rfl, fun _ => rfl⟩
end Go.Proofs.YtkadlopcomjonaaDoor.pg

