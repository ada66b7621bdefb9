/- The document's own writer: a whole program, and the place of an instruction. -/
import Derived.Test.YtonkcnaijcpfdaaGreatDoorM24
import Derived.Test.YtonkcnaijcpfdaaGreatDoorM26
import Derived.Test.YtonkcnaijcpfdaaGreatDoorM4
namespace Go.Proofs.YtonkcnaijcpfdaaGreatDoor.pg
open Go.ChangeShapes Go.WideShapes Go.ChangeAt Go.RowKit
set_option linter.unusedVariables false
set_option linter.unusedSimpArgs false
set_option maxRecDepth 100000
/-- The place that has been found so far. -/
def Plc (M : MPr) (f pc : Int) (j q : Nat) (A : Int) : Prop :=
  (∃ (F : Nat) (fn : MFn) (p : Nat) (i : Ins), f = (F : Int) ∧ pc = (p : Int) ∧ M.fns[F]? = some fn ∧ fn.code[p]? = some i ∧ (F < j ∨ (F = j ∧ p < q)) ∧ A = (((aheadB M F fn p).length : Nat) : Int)) ∨
  (A = 0 ∧ ∀ (F : Nat) (fn : MFn) (p : Nat) (i : Ins), f = (F : Int) → pc = (p : Int) → M.fns[F]? = some fn → fn.code[p]? = some i → ¬ (F < j ∨ (F = j ∧ p < q)))
theorem plc_start (M : MPr) (f pc : Int) : Plc M f pc 0 0 0 := .inr ⟨rfl, fun F fn p i _ _ _ _ h => by omega⟩
theorem plc_hit (M : MPr) (j q : Nat) (fn : MFn) (i : Ins) (hj : M.fns[j]? = some fn) (hq : fn.code[q]? = some i) (f pc : Int) (h1 : (j : Int) = f) (h2 : (q : Int) = pc) : Plc M f pc j (q + 1) (((aheadB M j fn q).length : Nat) : Int) :=
  .inl ⟨j, fn, q, i, h1.symm, h2.symm, hj, hq, .inr ⟨rfl, by omega⟩, rfl⟩
theorem plc_miss {M : MPr} {f pc A : Int} {j q : Nat} (h : Plc M f pc j q A) (hn : ¬ ((j : Int) = f ∧ (q : Int) = pc)) : Plc M f pc j (q + 1) A := by
  rcases h with ⟨F, fn, p, i, h1, h2, h3, h4, h5, h6⟩ | ⟨h1, h2⟩
  · exact .inl ⟨F, fn, p, i, h1, h2, h3, h4, by omega, h6⟩
  · exact .inr ⟨h1, fun F fn p i a b c d e => h2 F fn p i a b c d (by omega)⟩
theorem plc_next {M : MPr} {f pc A : Int} {j : Nat} {fn : MFn} (hj : M.fns[j]? = some fn) (h : Plc M f pc j fn.code.length A) : Plc M f pc (j + 1) 0 A := by
  rcases h with ⟨F, fn', p, i, h1, h2, h3, h4, h5, h6⟩ | ⟨h1, h2⟩
  · exact .inl ⟨F, fn', p, i, h1, h2, h3, h4, by omega, h6⟩
  · refine .inr ⟨h1, fun F fn' p i a b c d e => h2 F fn' p i a b c d ?_⟩
    rcases e with e | e
    · by_cases hF : F = j
      · subst hF
        rw [hj] at c
        simp only [Option.some.injEq] at c
        subst c
        exact .inr ⟨rfl, (List.getElem?_eq_some_iff.mp d).1⟩
      · exact .inl (by omega)
    · omega
/-- The four bytes of a sum, in a list of its own. -/
abbrev objNb (x : Nat) : Obj := .cells #[.int .u8 ((x : Int) / 16777216), .int .u8 ((x : Int) / 65536 % 256), .int .u8 ((x : Int) / 256 % 256), .int .u8 ((x : Int) % 256)] 5
theorem sum_cells {w : World} {b x : Nat} (h : w.heap[b]? = some (objNb x)) (j : Nat) (u : Value) (hj : ((sumB x).map u8c).flatten[j]? = some u) : w.cell? ((⟨b, 0, none⟩ : Addr).add j) = some u := by
  rw [add_none, Nat.zero_add]
  have hj4 : j < 4 := by have := (List.getElem?_eq_some_iff.mp hj).1; simpa [sumB] using this
  have h4 : j = 0 ∨ j = 1 ∨ j = 2 ∨ j = 3 := by omega
  rcases h4 with rfl | rfl | rfl | rfl
  all_goals
    simp [sumB] at hj
    subst hj
    first
      | exact whole_cell h 0 _ rfl
      | exact whole_cell h 1 _ rfl
      | exact whole_cell h 2 _ rfl
      | exact whole_cell h 3 _ rfl
theorem new2_at (w : World) (o1 o2 : Obj) : ((w.alloc o1).alloc o2).heap[w.heap.size + 1]? = some o2 := by
  have := heap_alloc_new (w.alloc o1) o2
  rw [World.size_alloc] at this
  exact this
theorem sum_one (x : Nat) : ∀ u ∈ ((sumB x).map u8c).flatten, u.oneCell' = true := by
  rw [u8_flat]
  intro u hu
  obtain ⟨b, _, rfl⟩ := List.mem_map.mp hu
  rfl
theorem bt_sum (x : Nat) (h : x < 4294967296) : Bt (sumB x) := by
  intro b hb
  simp only [sumB, List.mem_cons, List.not_mem_nil, or_false] at hb
  rcases hb with rfl | rfl | rfl | rfl <;> omega
theorem bs_more {w : World} {lo : Nat} {v : Value} {E S : List Nat} (hE : Bt E) (hS : Bt S) (hs : lo ≤ w.heap.size) (h : w.ownsRow lo 5 1 v (E.length + S.length) ((E.map u8c).flatten ++ (S.map u8c).flatten)) : Bs w lo v (E ++ S) := by
  have hform : ∃ a c, v = .slice a (E.length + S.length) c := by
    rcases h.2 with ⟨q, q2⟩ | ⟨g', cap', cur, q, _⟩
    · exact ⟨none, 0, by rw [q, q2]⟩
    · exact ⟨_, _, q⟩
  obtain ⟨a, c, rfl⟩ := hform
  refine ⟨hs, bt_app hE hS, a, c, by rw [List.length_append], ?_⟩
  show w.ownsRow lo _ 1 (.slice a ((E ++ S).map u8c).length c) ((E ++ S).map u8c).length ((E ++ S).map u8c).flatten
  rw [List.length_map, List.length_append, List.map_append, List.flatten_append]
  exact h
theorem own_flat {w : World} {lo : Nat} {a : Option Addr} {c : Nat} {E : List Nat} (h : OwnL w lo 5 1 a c (E.map u8c)) : w.ownsRow lo 5 1 (.slice a E.length c) E.length (E.map u8c).flatten := by
  rw [show OwnL w lo 5 1 a c (E.map u8c) = w.ownsRow lo 5 1 (.slice a (E.map u8c).length c) (E.map u8c).length (E.map u8c).flatten from rfl, List.length_map] at h
  exact h
section
variable {w : World}
theorem magic_b : Ap 34 #[] w magicB := by
  unfold Ap
  have hb := boxed w (.cells #[.int .u8 83, .int .u8 67, .int .u8 82, .int .u8 66, .int .u8 1] 5)
  have hbx := heap_alloc_new w (.cells #[.int .u8 83, .int .u8 67, .int .u8 82, .int .u8 66, .int .u8 1] 5)
  have hB : Hid (Bs (w.alloc (.cells #[.int .u8 83, .int .u8 67, .int .u8 82, .int .u8 66, .int .u8 1] 5)) w.heap.size (.slice (some ⟨w.heap.size, 0, none⟩) 5 5) magicB) :=
    ⟨hb.size, by intro b hb; have : ∀ b ∈ magicB, b < 256 := by decide
                 exact this b hb, some ⟨w.heap.size, 0, none⟩, 5, rfl, rfl, .inr ⟨w.heap.size, 5, _, rfl, Nat.le_refl _, hbx, by decide, by decide, rfl, rfl⟩⟩
  go_enter Tryz.func34, Tryz.ntmps34
  go_wp2
  go_ret
  exact ⟨_, rfl, hB.out, hb⟩
end
end Go.Proofs.YtonkcnaijcpfdaaGreatDoor.pg
/- The document's own writer: the bytes of a right program. -/
namespace Go.Proofs.YtonkcnaijcpfdaaGreatDoor.pg
open Go.ChangeShapes Go.WideShapes Go.ChangeAt Go.RowKit
set_option linter.unusedVariables false
set_option linter.unusedSimpArgs false
set_option maxRecDepth 100000
section
variable {w : World}
set_option maxHeartbeats 8000000 in
theorem rbytes_b (M : MPr) (hl : M.lies w) (hok : prOk M) (hsm : (encB M).length ≤ 1000000) (f pc : Int) (hf1 : -9223372036854775808 ≤ f) (hf2 : f ≤ 9223372036854775807) (hp1 : -9223372036854775808 ≤ pc) (hp2 : pc ≤ 9223372036854775807) :
    Calls Tryz.prog 23 #[M.val, .int .i64 f, .int .i64 pc] w fun e w' => ∃ v A, e = .returned (.tuple #[v, .int .i64 A]) ∧ Plc M f pc M.fns.length 0 A ∧ Bs w' w.heap.size v (encB M ++ sumB (sumOf (fl (encB M)) (encB M).length)) ∧ Below w.heap.size w w' := by
  have hb := boxed w (objP M)
  have bP := boxP_new w M
  have hLW := hl.later hb
  have hv : (M.vars.length : Int) ≤ 9223372036854775807 := rows_len hl.1
  have hch : (M.chans.length : Int) ≤ 9223372036854775807 := rows_len hl.2.1
  have hfn : (M.fns.length : Int) ≤ 9223372036854775807 := rows_len hl.2.2.1
  obtain ⟨v2, ⟨l1, l2⟩, c2, f5, f2⟩ := hok
  have hEnc : Hid (encB M = magicB ++ putB M.vars.length ++ M.vars.flatMap varB ++ putB M.locks.toNat ++ putB M.chans.length ++ M.chans.flatMap chB ++ putB M.fns.length ++ M.fns.flatMap fnB) := by
    show _ = _
    unfold encB encH
    simp only [List.append_assoc]
  have hAh : Hid (∀ j fn q, aheadB M j fn q = magicB ++ putB M.vars.length ++ M.vars.flatMap varB ++ putB M.locks.toNat ++ putB M.chans.length ++ M.chans.flatMap chB ++ putB M.fns.length ++ (M.fns.take j).flatMap fnB ++ putB fn.params.toNat ++ putB fn.regs.toNat ++ (putB fn.sels.length ++ fn.sels.flatMap fun y : MSel => selB y.sel) ++ putB fn.code.length ++ (fn.code.take q).flatMap insB) := fun j fn q => by
    unfold aheadB encH fnHead
    simp only [List.append_assoc]
  have hE := hsm
  rw [hEnc.out] at hE
  simp only [List.length_append] at hE
  have k1 : Calls Tryz.prog 34 #[] (w.alloc (objP M)) _ := magic_b
  have k2 : ∀ wx lx vx, Bs wx lx vx magicB → Calls Tryz.prog 35 #[vx, .int .u64 (M.vars.length : Int)] wx _ := fun wx lx vx hx => rputn_b hx (by decide) M.vars.length (by omega)
  have hz : w.heap.size < (w.alloc (objP M)).heap.size := by simp only [World.size_alloc]; omega
  clear hl hsm
  go_enter Tryz.func23, Tryz.ntmps23
  go_wp2_with (first
    | (go_at_call 34; (with_reducible refine k1.mono ?_); rintro e w1 ⟨v1, rfl, h1, hb1⟩; obtain ⟨p0, p1, p2, p3⟩ := bP.later hb1; (have z1 := hb1.size))
    | (go_at_call 35; (with_reducible refine (k2 _ _ _ h1).mono ?_); rintro e w2 ⟨v2', rfl, h2, hb2⟩))
  have h2' : Bs w2 w.heap.size v2' (magicB ++ putB M.vars.length) := h2.base (by omega)
  have B2 : Below (w.alloc (objP M)).heap.size (w.alloc (objP M)) w2 := bthen hb1 hb2
  clear p0 p1 p2 p3 k1 k2 h2 h1 hb2 hb1 z1
  generalize w.alloc (objP M) = W at *
  have hlen : (magicB ++ putB M.vars.length).length = magicB.length + (putB M.vars.length).length := List.length_append
  generalize magicB ++ putB M.vars.length = O at *
  go_loopw [9, 10] (fun vs u wr => ∃ (j : Nat) (vv : Value), vv = vs ∧ j ≤ M.vars.length ∧ u = .int .i64 j ∧ Bs wr w.heap.size vv (O ++ (M.vars.take j).flatMap varB) ∧ Below W.heap.size W wr) (fun _ u _ => M.vars.length - (intOf u).toNat)
  case atStart => exact ⟨0, _, rfl, Nat.zero_le _, rfl, by simpa using h2', B2⟩
  case round =>
    clear h2' B2
    obtain ⟨j, vv, rfl, hj, rfl, h1, hb1⟩ := hrel
    obtain ⟨p0, p1, p2, p3⟩ := bP.later hb1
    have hz1 : w.heap.size < wr.heap.size := by have := hb1.size; omega
    by_cases hlt : j < M.vars.length
    · obtain ⟨x, hx, hxm⟩ := get_lt M.vars j hlt
      obtain ⟨bb, o, hix, hbl, c0, c1⟩ := vr_ix (hLW.later hb1).1 j x hx
      have hjI : (j : Int) < M.vars.length := by omega
      have hfl := take_flat varB M.vars (j + 1)
      rw [take_flat_one varB M.vars j x hx, List.length_append] at hfl
      have hF : Hid ((M.vars.take (j + 1)).flatMap varB = (M.vars.take j).flatMap varB ++ (flagB x.atomic ++ sgnB x.init)) := take_flat_one varB M.vars j x hx
      have hvl : (varB x).length = (flagB x.atomic).length + (sgnB x.init).length := List.length_append
      have hxi := v2 x hxm
      have hOl : (O ++ (M.vars.take j).flatMap varB).length + ((flagB x.atomic).length + (sgnB x.init).length) ≤ 1000000 := by rw [List.length_append]; omega
      have hO : Hid (O ++ (M.vars.take (j + 1)).flatMap varB = O ++ (M.vars.take j).flatMap varB ++ flagB x.atomic ++ sgnB x.init) := by show _ = _; rw [hF.out]; simp only [List.append_assoc]
      clear hF hfl hvl hE hlen hEnc hAh f2 c2 v2
      generalize O ++ (M.vars.take j).flatMap varB = O2 at *
      have k1 : Calls Tryz.prog 36 #[vv, .bool x.atomic] wr _ := rflag_b h1 (by omega) x.atomic
      have k2 : ∀ wx lx vx, Bs wx lx vx (O2 ++ flagB x.atomic) → Calls Tryz.prog 37 #[vx, .int .i64 x.init] wx _ := fun wx lx vx hx => rputint_b hx (by rw [List.length_append]; omega) x.init hxi
      clear h1
      go_wp2_with (first
        | (go_at_call 36; (with_reducible refine k1.mono ?_); rintro e w3 ⟨v3, rfl, h3, hb3⟩; clear p0 p1 p2 p3; obtain ⟨p0, p1, p2, p3⟩ := (bP.later hb1).later hb3; (have d1 := cell_later hb3 c1); (have z3 := hb3.size))
        | (go_at_call 37; (with_reducible refine (k2 _ _ _ h3).mono ?_); rintro e w4 ⟨v4, rfl, h4, hb4⟩))
      go_roundw
      case rel => exact ⟨j + 1, _, rfl, by omega, by go_num, by rw [hO.out]; exact h4.base (by omega), bthen (bthen hb1 hb3) hb4⟩
      case measure => simp [intOf]; omega
    · have hj2 : j = M.vars.length := by omega
      subst hj2
      rw [List.take_length] at h1
      have hlen2 : (O ++ M.vars.flatMap varB).length = O.length + (M.vars.flatMap varB).length := List.length_append
      generalize O ++ M.vars.flatMap varB = O2 at *
      have k1 : Calls Tryz.prog 35 #[vv, .int .u64 M.locks] wr _ := rput_b h1 (by omega) M.locks l1 (by omega)
      have k2 : ∀ wx lx vx, Bs wx lx vx (O2 ++ putB M.locks.toNat) → Calls Tryz.prog 35 #[vx, .int .u64 (M.chans.length : Int)] wx _ := fun wx lx vx hx => rputn_b hx (by rw [List.length_append]; omega) M.chans.length (by omega)
      clear h1
      go_wp2_with (first
        | (go_at_call 35; (with_reducible refine k1.mono ?_); rintro e w3 ⟨v3, rfl, h3, hb3⟩; clear p0 p1 p2 p3; obtain ⟨p0, p1, p2, p3⟩ := (bP.later hb1).later hb3; (have z3 := hb3.size))
        | (go_at_call 35; (with_reducible refine (k2 _ _ _ h3).mono ?_); rintro e w4 ⟨v4, rfl, h4, hb4⟩))
      have h4' : Bs w4 w.heap.size v4 (O2 ++ putB M.locks.toNat ++ putB M.chans.length) := h4.base (by omega)
      have B4 : Below W.heap.size W w4 := bthen (bthen hb1 hb3) hb4
      have hlen3 : (O2 ++ putB M.locks.toNat ++ putB M.chans.length).length = O2.length + (putB M.locks.toNat).length + (putB M.chans.length).length := by simp only [List.length_append]
      clear p0 p1 p2 p3 k1 k2 h3 h4 hb3 hb4 z3 hb1 hz1
      generalize O2 ++ putB M.locks.toNat ++ putB M.chans.length = O3 at *
      go_loopw [9, 11] (fun vs u wr => ∃ (j : Nat) (vv : Value), vv = vs ∧ j ≤ M.chans.length ∧ u = .int .i64 j ∧ Bs wr w.heap.size vv (O3 ++ (M.chans.take j).flatMap chB) ∧ Below W.heap.size W wr) (fun _ u _ => M.chans.length - (intOf u).toNat)
      case atStart => exact ⟨0, _, rfl, Nat.zero_le _, rfl, by simpa using h4', B4⟩
      case round =>
        clear h4' B4
        obtain ⟨j, vv, rfl, hj, rfl, h1, hb1⟩ := hrel
        obtain ⟨p0, p1, p2, p3⟩ := bP.later hb1
        have hz1 : w.heap.size < wr.heap.size := by have := hb1.size; omega
        by_cases hlt : j < M.chans.length
        · obtain ⟨x, hx, hxm⟩ := get_lt M.chans j hlt
          obtain ⟨bb, o, hix, hbl, c0⟩ := ch_ix (hLW.later hb1).2.1 j x hx
          have hjI : (j : Int) < M.chans.length := by omega
          have hfl := take_flat chB M.chans (j + 1)
          rw [take_flat_one chB M.chans j x hx, List.length_append] at hfl
          have hF : Hid ((M.chans.take (j + 1)).flatMap chB = (M.chans.take j).flatMap chB ++ putB x.toNat) := take_flat_one chB M.chans j x hx
          obtain ⟨x1, x2⟩ := c2 x hxm
          have hOl : (O3 ++ (M.chans.take j).flatMap chB).length ≤ 1000000 := by rw [List.length_append]; omega
          have hO : Hid (O3 ++ (M.chans.take (j + 1)).flatMap chB = O3 ++ (M.chans.take j).flatMap chB ++ putB x.toNat) := by show _ = _; rw [hF.out]; simp only [List.append_assoc]
          clear hF hfl hE hlen hEnc hAh f2 c2 v2 hlen2 hlen3
          generalize O3 ++ (M.chans.take j).flatMap chB = O4 at *
          have k1 : Calls Tryz.prog 35 #[vv, .int .u64 x] wr _ := rput_b h1 (by omega) x x1 (by omega)
          clear h1
          go_wp2_with (go_at_call 35; (with_reducible refine k1.mono ?_); rintro e w3 ⟨v3, rfl, h3, hb3⟩)
          go_roundw
          case rel => exact ⟨j + 1, _, rfl, by omega, by go_num, by rw [hO.out]; exact h3.base (by omega), bthen hb1 hb3⟩
          case measure => simp [intOf]; omega
        · have hj2 : j = M.chans.length := by omega
          subst hj2
          rw [List.take_length] at h1
          have hlen4 : (O3 ++ M.chans.flatMap chB).length = O3.length + (M.chans.flatMap chB).length := List.length_append
          generalize O3 ++ M.chans.flatMap chB = O4 at *
          have k1 : Calls Tryz.prog 35 #[vv, .int .u64 (M.fns.length : Int)] wr _ := rputn_b h1 (by omega) M.fns.length (by omega)
          clear h1
          go_wp2_with (go_at_call 35; (with_reducible refine k1.mono ?_); rintro e w3 ⟨v3, rfl, h3, hb3⟩)
          have h3' : Bs w3 w.heap.size v3 (O4 ++ putB M.fns.length) := h3.base (by omega)
          have B3 : Below W.heap.size W w3 := bthen hb1 hb3
          have hlen5 : (O4 ++ putB M.fns.length).length = O4.length + (putB M.fns.length).length := List.length_append
          clear p0 p1 p2 p3 k1 h3 hb3 hb1 hz1
          generalize O4 ++ putB M.fns.length = O5 at *
          have hO5 : O5.length + (M.fns.flatMap fnB).length ≤ 1000000 := by omega
          clear hlen hlen2 hlen3 hlen4 hlen5 hE v2 c2
          have hP0 : Plc M f pc 0 0 0 := plc_start M f pc
          go_loopw [8, 9, 12] (fun av vs u wr => ∃ (j : Nat) (vv : Value) (A : Int), vv = vs ∧ j ≤ M.fns.length ∧ u = .int .i64 j ∧ av = .int .i64 A ∧ Plc M f pc j 0 A ∧ Bs wr w.heap.size vv (O5 ++ (M.fns.take j).flatMap fnB) ∧ Below W.heap.size W wr) (fun _ _ u _ => M.fns.length - (intOf u).toNat)
          case atStart => exact ⟨0, _, 0, rfl, Nat.zero_le _, rfl, rfl, hP0, by simpa using h3', B3⟩
          case round =>
            clear h3' B3 hP0
            obtain ⟨j, vv, A, rfl, hj, rfl, rfl, hP, h1, hb1⟩ := hrel
            obtain ⟨p0, p1, p2, p3⟩ := bP.later hb1
            have hz1 : w.heap.size < wr.heap.size := by have := hb1.size; omega
            by_cases hlt : j < M.fns.length
            · obtain ⟨x, hx, hxm⟩ := get_lt M.fns j hlt
              obtain ⟨bb, o, hix, hbl, c0, c1, c2, c3⟩ := fn_ix (hLW.later hb1).2.2.1 j x hx
              have hjI : (j : Int) < M.fns.length := by omega
              have hfl := take_flat fnB M.fns (j + 1)
              rw [take_flat_one fnB M.fns j x hx, List.length_append] at hfl
              have hF : Hid ((M.fns.take (j + 1)).flatMap fnB = (M.fns.take j).flatMap fnB ++ fnB x) := take_flat_one fnB M.fns j x hx
              have hB : Hid (fnB x = putB x.params.toNat ++ putB x.regs.toNat ++ (putB x.sels.length ++ x.sels.flatMap fun y : MSel => selB y.sel) ++ putB x.code.length ++ x.code.flatMap insB) := by
                show _ = _
                unfold fnB fnHead
                simp only [List.append_assoc]
              have hfx := congrArg List.length hB.out
              simp only [List.length_append] at hfx
              obtain ⟨⟨x1, x2⟩, ⟨x3, x4⟩, x5, x6, x7⟩ := f2 x hxm
              have hxl := ((hLW.later hb1).2.2.2.2.2.2 x hxm)
              have hbb := boxed wr (objF x)
              have bF := boxF_new wr x
              have hxl2 : Hid (x.lies (wr.alloc (objF x))) := hxl.later hbb
              have hcl : (x.code.length : Int) ≤ 9223372036854775807 := rows_len hxl.1
              have hsl : (x.sels.length : Int) ≤ 9223372036854775807 := rows_len hxl.2.1
              have hO6 : Hid (∀ q, aheadB M j x q = O5 ++ (M.fns.take j).flatMap fnB ++ putB x.params.toNat ++ putB x.regs.toNat ++ (putB x.sels.length ++ x.sels.flatMap fun y : MSel => selB y.sel) ++ putB x.code.length ++ (x.code.take q).flatMap insB) := fun q => hAh.out j x q
              have hOe : Hid (O5 ++ (M.fns.take (j + 1)).flatMap fnB = O5 ++ (M.fns.take j).flatMap fnB ++ putB x.params.toNat ++ putB x.regs.toNat ++ (putB x.sels.length ++ x.sels.flatMap fun y : MSel => selB y.sel) ++ putB x.code.length ++ x.code.flatMap insB) := by
                show _ = _
                rw [hF.out, hB.out]
                simp only [List.append_assoc]
              have hOl : (O5 ++ (M.fns.take j).flatMap fnB).length + ((putB x.params.toNat).length + (putB x.regs.toNat).length + ((putB x.sels.length).length + (x.sels.flatMap fun y : MSel => selB y.sel).length) + (putB x.code.length).length + (x.code.flatMap insB).length) ≤ 1000000 := by
                rw [List.length_append]
                omega
              clear hF hB hfl hfx hxl hAh hEnc f2
              generalize O5 ++ (M.fns.take j).flatMap fnB = O6 at *
              have k1 : Calls Tryz.prog 35 #[vv, .int .u64 x.params] (wr.alloc (objF x)) _ := rput_b (h1.later hbb) (by omega) x.params x1 (by omega)
              have k2 : ∀ wx lx vx, Bs wx lx vx (O6 ++ putB x.params.toNat) → Calls Tryz.prog 35 #[vx, .int .u64 x.regs] wx _ := fun wx lx vx hx => rput_b hx (by rw [List.length_append]; omega) x.regs x3 (by omega)
              have k3 : ∀ wx lx vx, Bs wx lx vx (O6 ++ putB x.params.toNat ++ putB x.regs.toNat) → Below (wr.alloc (objF x)).heap.size (wr.alloc (objF x)) wx → Calls Tryz.prog 38 #[vx, .slice x.sa x.sels.length x.scap] wx _ := fun wx lx vx hx hbx => rselects_b hx x.sels x.sa x.scap (hxl2.out.later hbx).2.1 (fun s hs => ⟨x7 s hs, (hxl2.out.later hbx).2.2.2.1 s hs⟩) (by simp only [List.length_append]; omega)
              have k4 : ∀ wx lx vx, Bs wx lx vx (O6 ++ putB x.params.toNat ++ putB x.regs.toNat ++ (putB x.sels.length ++ x.sels.flatMap fun y : MSel => selB y.sel)) → Calls Tryz.prog 35 #[vx, .int .u64 (x.code.length : Int)] wx _ := fun wx lx vx hx => rputn_b hx (by simp only [List.length_append]; omega) x.code.length (by omega)
              clear h1
              go_wp2_with (first
                | (go_at_call 35; (with_reducible refine k1.mono ?_); rintro e w3 ⟨v3, rfl, h3, hb3⟩; obtain ⟨d0, d1, d2, d3⟩ := bF.later hb3; (have z3 := hb3.size))
                | (go_at_call 35; (with_reducible refine (k2 _ _ _ h3).mono ?_); rintro e w4 ⟨v4, rfl, h4, hb4⟩; clear d0 d1 d2 d3; obtain ⟨d0, d1, d2, d3⟩ := (bF.later hb3).later hb4; (have z4 := hb4.size); (have B4 := bthen hb3 hb4))
                | (go_at_call 38; (with_reducible refine (k3 _ _ _ h4 B4).mono ?_); rintro e w5 ⟨v5, rfl, h5, hb5⟩; clear d0 d1 d2 d3; obtain ⟨d0, d1, d2, d3⟩ := ((bF.later hb3).later hb4).later hb5; (have z5 := hb5.size); (have B5 := bthen B4 hb5))
                | (go_at_call 35; (with_reducible refine (k4 _ _ _ h5).mono ?_); rintro e w6 ⟨v6, rfl, h6, hb6⟩; (have B6 := bthen B5 hb6)))
              have hzz : wr.heap.size < (wr.alloc (objF x)).heap.size := by simp only [World.size_alloc]; omega
              have h6' : Bs w6 w.heap.size v6 (O6 ++ putB x.params.toNat ++ putB x.regs.toNat ++ (putB x.sels.length ++ x.sels.flatMap fun y : MSel => selB y.sel) ++ putB x.code.length) := h6.base (by omega)
              have hlen6 : (O6 ++ putB x.params.toNat ++ putB x.regs.toNat ++ (putB x.sels.length ++ x.sels.flatMap fun y : MSel => selB y.sel) ++ putB x.code.length).length + (x.code.flatMap insB).length ≤ 1000000 := by simp only [List.length_append]; omega
              have hBw : Hid (Below W.heap.size W (wr.alloc (objF x))) := bthen hb1 hbb
              have hwz : w.heap.size ≤ (wr.alloc (objF x)).heap.size := by omega
              clear d0 d1 d2 d3 p0 p1 p2 p3 k1 k2 k3 k4 h3 h4 h5 h6 hb3 hb4 hb5 hb6 z3 z4 z5 B4 B5 hix c0 c1 c2 c3 hbl hbb hb1 hz1
              generalize O6 ++ putB x.params.toNat ++ putB x.regs.toNat ++ (putB x.sels.length ++ x.sels.flatMap fun y : MSel => selB y.sel) ++ putB x.code.length = O7 at *
              generalize hBY : wr.heap.size = BY at *
              generalize wr.alloc (objF x) = W1 at *
              clear hBY
              go_loopw [8, 9, 14] (fun av vs u wr => ∃ (q : Nat) (vv : Value) (A : Int), vv = vs ∧ q ≤ x.code.length ∧ u = .int .i64 q ∧ av = .int .i64 A ∧ Plc M f pc j q A ∧ Bs wr w.heap.size vv (O7 ++ (x.code.take q).flatMap insB) ∧ Below W1.heap.size W1 wr) (fun _ _ u _ => x.code.length - (intOf u).toNat)
              case atStart => exact ⟨0, _, A, rfl, Nat.zero_le _, rfl, rfl, hP, by simpa using h6', B6⟩
              case round =>
                clear h6' B6 hP
                obtain ⟨q, vv, A, rfl, hq, rfl, rfl, hP, h2, hb2⟩ := hrel
                obtain ⟨d0, d1, d2, d3⟩ := bF.later hb2
                have hz2 : BY < wr.heap.size := by have := hb2.size; omega
                have hz3 : w.heap.size ≤ wr.heap.size := by have := hb2.size; omega
                by_cases hlq : q < x.code.length
                · obtain ⟨y, hy, hym⟩ := get_lt x.code q hlq
                  obtain ⟨bb, o, hix, hbl, c0, c1, c2, c3, c4⟩ := ins_ix (hxl2.out.later hb2).1 q y hy
                  have hqI : (q : Int) < x.code.length := by omega
                  have hfl := take_flat insB x.code (q + 1)
                  rw [take_flat_one insB x.code q y hy, List.length_append] at hfl
                  have hO8 : Hid (O7 ++ (x.code.take (q + 1)).flatMap insB = O7 ++ (x.code.take q).flatMap insB ++ insB y) := by
                    show _ = _
                    rw [take_flat_one insB x.code q y hy]
                    simp only [List.append_assoc]
                  have hAq : Hid (aheadB M j x q = O7 ++ (x.code.take q).flatMap insB) := hO6.out q
                  obtain ⟨i1, i2, i3⟩ := x6 y hym
                  have hOl8 : (O7 ++ (x.code.take q).flatMap insB).length + (insB y).length ≤ 1000000 := by rw [List.length_append]; omega
                  clear hfl
                  generalize O7 ++ (x.code.take q).flatMap insB = O8 at *
                  have k1 : Calls Tryz.prog 29 #[vv, y.val] wr _ := rinstr_b h2 y i1 i2 i3 (by omega)
                  clear i1 i2 i3 x6 x7
                  by_cases hh : (j : Int) = f ∧ (q : Int) = pc
                  · have hP2 := plc_hit M j q x y hx hy f pc hh.1 hh.2
                    rw [hAq.out] at hP2
                    obtain ⟨e1, e2⟩ := hh
                    subst e1
                    subst e2
                    obtain ⟨z1, z2, va, vc, rfl, z3⟩ := h2
                    generalize O8.length = n8 at *
                    have hP3 : Hid (Plc M (j : Int) (q : Int) j (q + 1) (n8 : Int)) := hP2
                    clear hP2 hP z1 z2 z3 hAq hO6
                    go_wp2_with (go_at_call 29; (with_reducible refine k1.mono ?_); rintro e w3 ⟨v3, rfl, h3, hb3⟩)
                    go_roundw
                    case rel => exact ⟨q + 1, _, _, rfl, by omega, by go_num, rfl, hP3.out, by rw [hO8.out]; exact h3.base hz3, bthen hb2 hb3⟩
                    case measure => simp [intOf]; omega
                  · have hP2 : Hid (Plc M f pc j (q + 1) A) := plc_miss hP hh
                    clear hP hAq hO6
                    by_cases e1 : (j : Int) = f
                    · have e2 : ¬ (q : Int) = pc := fun q' => hh ⟨e1, q'⟩
                      clear hh
                      subst e1
                      go_wp2_with (go_at_call 29; (with_reducible refine k1.mono ?_); rintro e w3 ⟨v3, rfl, h3, hb3⟩)
                      go_roundw
                      case rel => exact ⟨q + 1, _, _, rfl, by omega, by go_num, rfl, hP2.out, by rw [hO8.out]; exact h3.base hz3, bthen hb2 hb3⟩
                      case measure => simp [intOf]; omega
                    · clear hh
                      go_wp2_with (go_at_call 29; (with_reducible refine k1.mono ?_); rintro e w3 ⟨v3, rfl, h3, hb3⟩)
                      go_roundw
                      case rel => exact ⟨q + 1, _, _, rfl, by omega, by go_num, rfl, hP2.out, by rw [hO8.out]; exact h3.base hz3, bthen hb2 hb3⟩
                      case measure => simp [intOf]; omega
                · have hq2 : q = x.code.length := by omega
                  subst hq2
                  rw [List.take_length] at h2
                  have hP2 : Hid (Plc M f pc (j + 1) 0 A) := plc_next hx hP
                  clear hP
                  go_wp2
                  go_roundw
                  case rel => exact ⟨j + 1, _, A, rfl, by omega, by go_num, rfl, hP2.out, by rw [hOe.out]; exact h2, bthen hBw.out hb2⟩
                  case measure => simp [intOf]; omega
            · have hj2 : j = M.fns.length := by omega
              subst hj2
              rw [List.take_length, ← hEnc.out] at h1
              have hEl : (encB M).length ≤ 1000000 := by rw [hEnc.out, List.length_append]; exact hO5
              clear hEnc hAh hO5
              have hPH : Hid (Plc M f pc M.fns.length 0 A) := hP
              clear hP
              obtain ⟨E, hEE⟩ : ∃ E, Hid (encB M = E) := ⟨_, rfl⟩
              rw [hEE.out] at h1 hEl
              obtain ⟨z1, hbt, va, vc, rfl, ho⟩ := h1
              have hrow := (bs_row hbt ho).1
              have hX : sumOf (fl E) E.length < 4294967296 := by unfold sumOf; omega
              have kS : Calls Tryz.prog 24 #[.slice va E.length vc] wr fun e w' => e = .returned (.int .u32 ((sumOf (fl E) E.length : Nat) : Int)) ∧ w' = wr := octet.refsum_any va _ vc _ wr hrow
              obtain ⟨X, hXX⟩ : ∃ X, Hid (sumOf (fl E) E.length = X) := ⟨_, rfl⟩
              rw [hXX.out] at hX kS
              have kX : Calls Tryz.prog 39 #[.int .u32 (X : Int)] wr _ := octet.reffixed_any _ (by omega) (by omega) wr
              obtain ⟨i5, hi5, hz5, hs5, hb5⟩ := info_of infoB
              have hBw : Hid (Below w.heap.size w wr) := bthen hb hb1
              go_wp2_with (first
                | (go_at_call 24; (with_reducible refine kS.mono ?_); rintro e w' ⟨rfl, hw⟩; replace hw := hw.symm; subst hw)
                | (go_at_call 39; (with_reducible refine kX.mono ?_); rintro e w2 ⟨rfl, hb2⟩; (have hbN : Hid (Below wr.heap.size wr ((w2.alloc (objSum X)).alloc (objNb X))) := bthen hb2 (boxed2 _ _ _)); (have hoN : Hid (((w2.alloc (objSum X)).alloc (objNb X)).ownsRow w.heap.size 5 1 (.slice va E.length vc) E.length (E.map u8c).flatten) := own_flat (own_keep ho fun b hbb => hbN.out.block b (blk_lt ho b hbb).2)); (have hyN : Hid (((w2.alloc (objSum X)).alloc (objNb X)).heap[w2.heap.size + 1]? = some (objNb X)) := new2_at _ _ _))
                | (at_builtin; refine wpList_append_own _ rfl (.tmp 137) (.tmp 146) 28 rfl w.heap.size 5 i5 (.int .u8 0) 1 1 Tryz.underlying28 hi5 hz5 hs5 hb5 rfl (by decide) (.slice va E.length vc) E.length (E.map u8c).flatten rfl hoN.out ⟨w2.heap.size + 1, 0, none⟩ 4 4 ((sumB X).map u8c).flatten rfl (by rw [u8_flat]; rfl) (sum_cells hyN.out) (sum_one X) (by unfold maxLen; omega) (by omega) (Nat.le_trans z1 hbN.out.size) ?_; intro v3 w3 ho3 hg3 hn3))
              have hB3 : Below w.heap.size w w3 := (bthen hBw.out hbN.out).grown hg3 (Nat.le_trans z1 hbN.out.size) (octet.ownBlock_ge hoN.out)
              have hfin : Bs w3 w.heap.size v3 (E ++ sumB X) := bs_more hbt (bt_sum X hX) hB3.size ho3
              go_ret2
              exact ⟨_, _, rfl, hPH.out, by rw [hEE.out, hXX.out]; exact hfin, hB3⟩
end
end Go.Proofs.YtonkcnaijcpfdaaGreatDoor.pg
/- The contracts of the document's own looks at operands. -/
namespace Go.Proofs.YtonkcnaijcpfdaaGreatDoor.pg
open Go.ChangeShapes Go.WideShapes Go.ChangeAt Go.RowKit
set_option linter.unusedVariables false
set_option linter.unusedSimpArgs false
set_option maxRecDepth 100000
theorem within_t (x n : Int) (w : World) (h : 0 ≤ x ∧ x < n) : Calls Tryz.prog 88 #[.int .i64 x, .int .i64 n] w fun e w' => e = .returned (.bool true) ∧ w' = w := by
  obtain ⟨h1, h2⟩ := h
  go_enter Tryz.func88, Tryz.ntmps88
  go_wp2
  go_ret
  exact ⟨rfl, rfl⟩
theorem within_f (x n : Int) (w : World) (h : x < 0 ∨ n ≤ x) : Calls Tryz.prog 88 #[.int .i64 x, .int .i64 n] w fun e w' => e = .returned (.bool false) ∧ w' = w := by
  by_cases h1 : 0 ≤ x
  · have h2 : ¬ x < n := by omega
    go_enter Tryz.func88, Tryz.ntmps88
    go_wp2
    go_ret
    exact ⟨rfl, rfl⟩
  · clear h
    go_enter Tryz.func88, Tryz.ntmps88
    go_wp2
    go_ret
    exact ⟨rfl, rfl⟩
section
variable (M : MPr) (f : MFn) (i : Ins) (x : Int) (w : World) (r : Int) (l : Int)
abbrev opR (l : Int) : Int := opndE (roomR (M.pr.par i.b) x f.regs) M.pr f.fn l x
theorem rop_r_t (h : 0 ≤ x ∧ x < f.regs) (hr : Hid (opR M f i x 114 = r)) : Calls Tryz.prog 91 #[M.val, f.val, .int .u8 114, .int .i64 x, i.val] w fun e w' => e = .returned (.int .i64 r) ∧ Below w.heap.size w w' := by
  have hv : Hid (r = 0) := hr.out.symm.trans (by
    have h' : inR x f.fn.regs := h
    simp only [opR, opndE, Int.reduceEq, false_and, false_or, or_false, true_or, or_true, if_false, if_true, if_pos h'])
  go_enter Tryz.func91, Tryz.ntmps91
  go_wp2_with (go_at_call 88; (with_reducible refine (within_t _ _ _ (by omega)).mono ?_); rintro e w' ⟨rfl, rfl⟩)
  go_ret
  exact ⟨ret_i hv.out.symm, boxed3 _ _ _ _⟩
theorem rop_r_f (h : ¬ (0 ≤ x ∧ x < f.regs)) (hr : Hid (opR M f i x 114 = r)) : Calls Tryz.prog 91 #[M.val, f.val, .int .u8 114, .int .i64 x, i.val] w fun e w' => e = .returned (.int .i64 r) ∧ Below w.heap.size w w' := by
  have hv : Hid (r = 35) := hr.out.symm.trans (by
    have h' : ¬ inR x f.fn.regs := h
    simp only [opR, opndE, Int.reduceEq, false_and, false_or, or_false, true_or, or_true, if_false, if_true, if_neg h'])
  go_enter Tryz.func91, Tryz.ntmps91
  go_wp2_with (go_at_call 88; (with_reducible refine (within_f _ _ _ (by omega)).mono ?_); rintro e w' ⟨rfl, rfl⟩)
  go_ret
  exact ⟨ret_i hv.out.symm, boxed3 _ _ _ _⟩
theorem rop_w_t (h : 0 ≤ x ∧ x < f.regs) (hr : Hid (opR M f i x 119 = r)) : Calls Tryz.prog 91 #[M.val, f.val, .int .u8 119, .int .i64 x, i.val] w fun e w' => e = .returned (.int .i64 r) ∧ Below w.heap.size w w' := by
  have hv : Hid (r = 0) := hr.out.symm.trans (by
    have h' : inR x f.fn.regs := h
    simp only [opR, opndE, Int.reduceEq, false_and, false_or, or_false, true_or, or_true, if_false, if_true, if_pos h'])
  go_enter Tryz.func91, Tryz.ntmps91
  go_wp2_with (go_at_call 88; (with_reducible refine (within_t _ _ _ (by omega)).mono ?_); rintro e w' ⟨rfl, rfl⟩)
  go_ret
  exact ⟨ret_i hv.out.symm, boxed3 _ _ _ _⟩
theorem rop_w_f (h : ¬ (0 ≤ x ∧ x < f.regs)) (hr : Hid (opR M f i x 119 = r)) : Calls Tryz.prog 91 #[M.val, f.val, .int .u8 119, .int .i64 x, i.val] w fun e w' => e = .returned (.int .i64 r) ∧ Below w.heap.size w w' := by
  have hv : Hid (r = 35) := hr.out.symm.trans (by
    have h' : ¬ inR x f.fn.regs := h
    simp only [opR, opndE, Int.reduceEq, false_and, false_or, or_false, true_or, or_true, if_false, if_true, if_neg h'])
  go_enter Tryz.func91, Tryz.ntmps91
  go_wp2_with (go_at_call 88; (with_reducible refine (within_f _ _ _ (by omega)).mono ?_); rintro e w' ⟨rfl, rfl⟩)
  go_ret
  exact ⟨ret_i hv.out.symm, boxed3 _ _ _ _⟩
theorem rop_o_t (hx : ¬ x = -1) (h : 0 ≤ x ∧ x < f.regs) (hr : Hid (opR M f i x 111 = r)) : Calls Tryz.prog 91 #[M.val, f.val, .int .u8 111, .int .i64 x, i.val] w fun e w' => e = .returned (.int .i64 r) ∧ Below w.heap.size w w' := by
  have hv : Hid (r = 0) := hr.out.symm.trans (by
    have h' : inR x f.fn.regs := h
    simp only [opR, opndE, hx, and_false, Int.reduceEq, false_and, false_or, or_false, true_or, or_true, if_false, if_true, if_pos h'])
  go_enter Tryz.func91, Tryz.ntmps91
  go_wp2_with (go_at_call 88; (with_reducible refine (within_t _ _ _ (by omega)).mono ?_); rintro e w' ⟨rfl, rfl⟩)
  go_ret
  exact ⟨ret_i hv.out.symm, boxed3 _ _ _ _⟩
theorem rop_o_f (hx : ¬ x = -1) (h : ¬ (0 ≤ x ∧ x < f.regs)) (hr : Hid (opR M f i x 111 = r)) : Calls Tryz.prog 91 #[M.val, f.val, .int .u8 111, .int .i64 x, i.val] w fun e w' => e = .returned (.int .i64 r) ∧ Below w.heap.size w w' := by
  have hv : Hid (r = 35) := hr.out.symm.trans (by
    have h' : ¬ inR x f.fn.regs := h
    simp only [opR, opndE, hx, and_false, Int.reduceEq, false_and, false_or, or_false, true_or, or_true, if_false, if_true, if_neg h'])
  go_enter Tryz.func91, Tryz.ntmps91
  go_wp2_with (go_at_call 88; (with_reducible refine (within_f _ _ _ (by omega)).mono ?_); rintro e w' ⟨rfl, rfl⟩)
  go_ret
  exact ⟨ret_i hv.out.symm, boxed3 _ _ _ _⟩
theorem rop_v_t (h : 0 ≤ x ∧ x < (M.vars.length : Int)) (hr : Hid (opR M f i x 118 = r)) : Calls Tryz.prog 91 #[M.val, f.val, .int .u8 118, .int .i64 x, i.val] w fun e w' => e = .returned (.int .i64 r) ∧ Below w.heap.size w w' := by
  have hv : Hid (r = 0) := hr.out.symm.trans (by
    have h' : inR x M.pr.vars.length := h
    simp only [opR, opndE, Int.reduceEq, false_and, false_or, or_false, true_or, or_true, if_false, if_true, if_pos h'])
  go_enter Tryz.func91, Tryz.ntmps91
  go_wp2_with (go_at_call 88; (with_reducible refine (within_t _ _ _ (by omega)).mono ?_); rintro e w' ⟨rfl, rfl⟩)
  go_ret
  exact ⟨ret_i hv.out.symm, boxed3 _ _ _ _⟩
theorem rop_v_f (h : ¬ (0 ≤ x ∧ x < (M.vars.length : Int))) (hr : Hid (opR M f i x 118 = r)) : Calls Tryz.prog 91 #[M.val, f.val, .int .u8 118, .int .i64 x, i.val] w fun e w' => e = .returned (.int .i64 r) ∧ Below w.heap.size w w' := by
  have hv : Hid (r = 36) := hr.out.symm.trans (by
    have h' : ¬ inR x M.pr.vars.length := h
    simp only [opR, opndE, Int.reduceEq, false_and, false_or, or_false, true_or, or_true, if_false, if_true, if_neg h'])
  go_enter Tryz.func91, Tryz.ntmps91
  go_wp2_with (go_at_call 88; (with_reducible refine (within_f _ _ _ (by omega)).mono ?_); rintro e w' ⟨rfl, rfl⟩)
  go_ret
  exact ⟨ret_i hv.out.symm, boxed3 _ _ _ _⟩
theorem rop_l_t (h : 0 ≤ x ∧ x < M.locks) (hr : Hid (opR M f i x 108 = r)) : Calls Tryz.prog 91 #[M.val, f.val, .int .u8 108, .int .i64 x, i.val] w fun e w' => e = .returned (.int .i64 r) ∧ Below w.heap.size w w' := by
  have hv : Hid (r = 0) := hr.out.symm.trans (by
    have h' : inR x M.pr.locks := h
    simp only [opR, opndE, Int.reduceEq, false_and, false_or, or_false, true_or, or_true, if_false, if_true, if_pos h'])
  go_enter Tryz.func91, Tryz.ntmps91
  go_wp2_with (go_at_call 88; (with_reducible refine (within_t _ _ _ (by omega)).mono ?_); rintro e w' ⟨rfl, rfl⟩)
  go_ret
  exact ⟨ret_i hv.out.symm, boxed3 _ _ _ _⟩
theorem rop_l_f (h : ¬ (0 ≤ x ∧ x < M.locks)) (hr : Hid (opR M f i x 108 = r)) : Calls Tryz.prog 91 #[M.val, f.val, .int .u8 108, .int .i64 x, i.val] w fun e w' => e = .returned (.int .i64 r) ∧ Below w.heap.size w w' := by
  have hv : Hid (r = 36) := hr.out.symm.trans (by
    have h' : ¬ inR x M.pr.locks := h
    simp only [opR, opndE, Int.reduceEq, false_and, false_or, or_false, true_or, or_true, if_false, if_true, if_neg h'])
  go_enter Tryz.func91, Tryz.ntmps91
  go_wp2_with (go_at_call 88; (with_reducible refine (within_f _ _ _ (by omega)).mono ?_); rintro e w' ⟨rfl, rfl⟩)
  go_ret
  exact ⟨ret_i hv.out.symm, boxed3 _ _ _ _⟩
theorem rop_c_t (h : 0 ≤ x ∧ x < (M.chans.length : Int)) (hr : Hid (opR M f i x 99 = r)) : Calls Tryz.prog 91 #[M.val, f.val, .int .u8 99, .int .i64 x, i.val] w fun e w' => e = .returned (.int .i64 r) ∧ Below w.heap.size w w' := by
  have hv : Hid (r = 0) := hr.out.symm.trans (by
    have h' : inR x M.pr.chans.length := h
    simp only [opR, opndE, Int.reduceEq, false_and, false_or, or_false, true_or, or_true, if_false, if_true, if_pos h'])
  go_enter Tryz.func91, Tryz.ntmps91
  go_wp2_with (go_at_call 88; (with_reducible refine (within_t _ _ _ (by omega)).mono ?_); rintro e w' ⟨rfl, rfl⟩)
  go_ret
  exact ⟨ret_i hv.out.symm, boxed3 _ _ _ _⟩
theorem rop_c_f (h : ¬ (0 ≤ x ∧ x < (M.chans.length : Int))) (hr : Hid (opR M f i x 99 = r)) : Calls Tryz.prog 91 #[M.val, f.val, .int .u8 99, .int .i64 x, i.val] w fun e w' => e = .returned (.int .i64 r) ∧ Below w.heap.size w w' := by
  have hv : Hid (r = 36) := hr.out.symm.trans (by
    have h' : ¬ inR x M.pr.chans.length := h
    simp only [opR, opndE, Int.reduceEq, false_and, false_or, or_false, true_or, or_true, if_false, if_true, if_neg h'])
  go_enter Tryz.func91, Tryz.ntmps91
  go_wp2_with (go_at_call 88; (with_reducible refine (within_f _ _ _ (by omega)).mono ?_); rintro e w' ⟨rfl, rfl⟩)
  go_ret
  exact ⟨ret_i hv.out.symm, boxed3 _ _ _ _⟩
theorem rop_s_t (h : 0 ≤ x ∧ x < (f.sels.length : Int)) (hr : Hid (opR M f i x 115 = r)) : Calls Tryz.prog 91 #[M.val, f.val, .int .u8 115, .int .i64 x, i.val] w fun e w' => e = .returned (.int .i64 r) ∧ Below w.heap.size w w' := by
  have hv : Hid (r = 0) := hr.out.symm.trans (by
    have h' : inR x (f.fn.sels.length : Int) := by rw [show (f.fn.sels.length : Int) = f.sels.length from by simp [MFn.fn]]; exact h
    simp only [opR, opndE, Int.reduceEq, false_and, false_or, or_false, true_or, or_true, if_false, if_true, if_pos h'])
  go_enter Tryz.func91, Tryz.ntmps91
  go_wp2_with (go_at_call 88; (with_reducible refine (within_t _ _ _ (by omega)).mono ?_); rintro e w' ⟨rfl, rfl⟩)
  go_ret
  exact ⟨ret_i hv.out.symm, boxed3 _ _ _ _⟩
theorem rop_s_f (h : ¬ (0 ≤ x ∧ x < (f.sels.length : Int))) (hr : Hid (opR M f i x 115 = r)) : Calls Tryz.prog 91 #[M.val, f.val, .int .u8 115, .int .i64 x, i.val] w fun e w' => e = .returned (.int .i64 r) ∧ Below w.heap.size w w' := by
  have hv : Hid (r = 36) := hr.out.symm.trans (by
    have h' : ¬ inR x (f.fn.sels.length : Int) := by rw [show (f.fn.sels.length : Int) = f.sels.length from by simp [MFn.fn]]; exact h
    simp only [opR, opndE, Int.reduceEq, false_and, false_or, or_false, true_or, or_true, if_false, if_true, if_neg h'])
  go_enter Tryz.func91, Tryz.ntmps91
  go_wp2_with (go_at_call 88; (with_reducible refine (within_f _ _ _ (by omega)).mono ?_); rintro e w' ⟨rfl, rfl⟩)
  go_ret
  exact ⟨ret_i hv.out.symm, boxed3 _ _ _ _⟩
theorem rop_f_t (h : 0 ≤ x ∧ x < (M.fns.length : Int)) (hr : Hid (opR M f i x 102 = r)) : Calls Tryz.prog 91 #[M.val, f.val, .int .u8 102, .int .i64 x, i.val] w fun e w' => e = .returned (.int .i64 r) ∧ Below w.heap.size w w' := by
  have hv : Hid (r = 0) := hr.out.symm.trans (by
    have h' : inR x (M.pr.fns.length : Int) := by rw [show (M.pr.fns.length : Int) = M.fns.length from by simp [MPr.pr]]; exact h
    simp only [opR, opndE, Int.reduceEq, false_and, false_or, or_false, true_or, or_true, if_false, if_true, if_pos h'])
  go_enter Tryz.func91, Tryz.ntmps91
  go_wp2_with (go_at_call 88; (with_reducible refine (within_t _ _ _ (by omega)).mono ?_); rintro e w' ⟨rfl, rfl⟩)
  go_ret
  exact ⟨ret_i hv.out.symm, boxed3 _ _ _ _⟩
theorem rop_f_f (h : ¬ (0 ≤ x ∧ x < (M.fns.length : Int))) (hr : Hid (opR M f i x 102 = r)) : Calls Tryz.prog 91 #[M.val, f.val, .int .u8 102, .int .i64 x, i.val] w fun e w' => e = .returned (.int .i64 r) ∧ Below w.heap.size w w' := by
  have hv : Hid (r = 36) := hr.out.symm.trans (by
    have h' : ¬ inR x (M.pr.fns.length : Int) := by rw [show (M.pr.fns.length : Int) = M.fns.length from by simp [MPr.pr]]; exact h
    simp only [opR, opndE, Int.reduceEq, false_and, false_or, or_false, true_or, or_true, if_false, if_true, if_neg h'])
  go_enter Tryz.func91, Tryz.ntmps91
  go_wp2_with (go_at_call 88; (with_reducible refine (within_f _ _ _ (by omega)).mono ?_); rintro e w' ⟨rfl, rfl⟩)
  go_ret
  exact ⟨ret_i hv.out.symm, boxed3 _ _ _ _⟩
theorem rop_t_t (h : 0 ≤ x ∧ x < (f.code.length : Int)) (hr : Hid (opR M f i x 116 = r)) : Calls Tryz.prog 91 #[M.val, f.val, .int .u8 116, .int .i64 x, i.val] w fun e w' => e = .returned (.int .i64 r) ∧ Below w.heap.size w w' := by
  have hv : Hid (r = 0) := hr.out.symm.trans (by
    have h' : inR x f.fn.code.length := h
    simp only [opR, opndE, Int.reduceEq, false_and, false_or, or_false, true_or, or_true, if_false, if_true, if_pos h'])
  go_enter Tryz.func91, Tryz.ntmps91
  go_wp2_with (go_at_call 88; (with_reducible refine (within_t _ _ _ (by omega)).mono ?_); rintro e w' ⟨rfl, rfl⟩)
  go_ret
  exact ⟨ret_i hv.out.symm, boxed3 _ _ _ _⟩
theorem rop_t_f (h : ¬ (0 ≤ x ∧ x < (f.code.length : Int))) (hr : Hid (opR M f i x 116 = r)) : Calls Tryz.prog 91 #[M.val, f.val, .int .u8 116, .int .i64 x, i.val] w fun e w' => e = .returned (.int .i64 r) ∧ Below w.heap.size w w' := by
  have hv : Hid (r = 38) := hr.out.symm.trans (by
    have h' : ¬ inR x f.fn.code.length := h
    simp only [opR, opndE, Int.reduceEq, false_and, false_or, or_false, true_or, or_true, if_false, if_true, if_neg h'])
  go_enter Tryz.func91, Tryz.ntmps91
  go_wp2_with (go_at_call 88; (with_reducible refine (within_f _ _ _ (by omega)).mono ?_); rintro e w' ⟨rfl, rfl⟩)
  go_ret
  exact ⟨ret_i hv.out.symm, boxed3 _ _ _ _⟩
theorem rop_o_none (hx : x = -1) (hr : Hid (opR M f i x 111 = r)) : Calls Tryz.prog 91 #[M.val, f.val, .int .u8 111, .int .i64 x, i.val] w fun e w' => e = .returned (.int .i64 r) ∧ Below w.heap.size w w' := by
  subst hx
  have hv : Hid (r = 0) := hr.out.symm.trans (by simp only [opR, opndE, and_self, if_true])
  go_enter Tryz.func91, Tryz.ntmps91
  go_wp2
  go_ret
  exact ⟨ret_i hv.out.symm, boxed3 _ _ _ _⟩
theorem rop_a_t (k : Nat) (y : Vr) (hk : x = (k : Int)) (hy : M.vars[k]? = some y) (hl : M.lies w) (hr : Hid (opR M f i x 97 = r)) : Calls Tryz.prog 91 #[M.val, f.val, .int .u8 97, .int .i64 x, i.val] w fun e w' => e = .returned (.int .i64 r) ∧ Below w.heap.size w w' := by
  have hlt : k < M.vars.length := (List.getElem?_eq_some_iff.mp hy).1
  have h : 0 ≤ x ∧ x < (M.vars.length : Int) := by omega
  obtain ⟨b, o, hix, hbl, c0, c1⟩ := vr_ix hl.1 k y hy
  rw [← hk] at hix
  replace c0 := cell3 c0
  have ha : M.pr.atom x = y.atomic := by rw [hk]; simp [Pr.atom, MPr.pr, hy]
  have hE : opR M f i x 97 = if y.atomic = true then 0 else 37 := by
    have h' : inR x M.pr.vars.length := h
    simp only [opR, opndE, Int.reduceEq, false_and, false_or, or_false, true_or, or_true, if_false, if_true, if_pos h', ha]
  cases hat : y.atomic with
  | true =>
    have hv : Hid (r = 0) := hr.out.symm.trans (by rw [hE, if_pos hat])
    clear ha hE hl hy hk c1 hr
    rw [hat] at c0
    go_enter Tryz.func91, Tryz.ntmps91
    go_wp2_with (go_at_call 88; (with_reducible refine (within_t _ _ _ (by omega)).mono ?_); rintro e w' ⟨rfl, rfl⟩)
    go_ret
    exact ⟨ret_i hv.out.symm, boxed3 _ _ _ _⟩
  | false =>
    have hv : Hid (r = 37) := hr.out.symm.trans (by rw [hE, if_neg (by simp [hat])])
    clear ha hE hl hy hk c1 hr
    rw [hat] at c0
    go_enter Tryz.func91, Tryz.ntmps91
    go_wp2_with (go_at_call 88; (with_reducible refine (within_t _ _ _ (by omega)).mono ?_); rintro e w' ⟨rfl, rfl⟩)
    go_ret
    exact ⟨ret_i hv.out.symm, boxed3 _ _ _ _⟩
theorem rop_a_f (h : ¬ (0 ≤ x ∧ x < (M.vars.length : Int))) (hr : Hid (opR M f i x 97 = r)) : Calls Tryz.prog 91 #[M.val, f.val, .int .u8 97, .int .i64 x, i.val] w fun e w' => e = .returned (.int .i64 r) ∧ Below w.heap.size w w' := by
  have hv : Hid (r = 36) := hr.out.symm.trans (by
    have h' : ¬ inR x M.pr.vars.length := h
    simp only [opR, opndE, Int.reduceEq, false_and, false_or, or_false, true_or, or_true, if_false, if_true, if_neg h'])
  go_enter Tryz.func91, Tryz.ntmps91
  go_wp2_with (go_at_call 88; (with_reducible refine (within_f _ _ _ (by omega)).mono ?_); rintro e w' ⟨rfl, rfl⟩)
  go_ret
  exact ⟨ret_i hv.out.symm, boxed3 _ _ _ _⟩
theorem rop_else (h1 : ¬ l = 111) (h2 : ¬ l = 114) (h3 : ¬ l = 119) (h4 : ¬ l = 112) (h5 : ¬ l = 97) (h6 : ¬ l = 118) (h7 : ¬ l = 108) (h8 : ¬ l = 99) (h9 : ¬ l = 115) (h10 : ¬ l = 102) (h11 : ¬ l = 116) (hr : Hid (opR M f i x l = r)) : Calls Tryz.prog 91 #[M.val, f.val, .int .u8 l, .int .i64 x, i.val] w fun e w' => e = .returned (.int .i64 r) ∧ Below w.heap.size w w' := by
  have hv : Hid (r = 0) := hr.out.symm.trans (by simp only [opR, opndE, h1, h2, h3, h4, h5, h6, h7, h8, h9, h10, h11, false_and, or_self, if_false])
  go_enter Tryz.func91, Tryz.ntmps91
  go_wp2
  go_ret
  exact ⟨ret_i hv.out.symm, boxed3 _ _ _ _⟩
theorem rop_p (k : Nat) (y : MFn) (hk : i.b = (k : Int)) (hy : M.fns[k]? = some y) (hl : M.lies w) (hx : I64 x) (h0 : 0 ≤ f.regs) (h8 : f.regs ≤ 8) (hr : Hid (opR M f i x 112 = r)) : Calls Tryz.prog 91 #[M.val, f.val, .int .u8 112, .int .i64 x, i.val] w fun e w' => e = .returned (.int .i64 r) ∧ Below w.heap.size w w' := by
  have hlt : k < M.fns.length := (List.getElem?_eq_some_iff.mp hy).1
  have hp : M.pr.par i.b = y.params := by rw [hk]; simp [Pr.par, MPr.pr, MFn.fn, hy]
  obtain ⟨b, o, hix, hbl, c0, c1, c2, c3⟩ := fn_ix hl.2.2.1 k y hy
  rw [← hk] at hix
  replace c0 := cell3 c0
  obtain ⟨y1, y2⟩ : I64 y.params := (hl.2.2.2.2.2.2 y (List.mem_of_getElem? hy)).2.2.2.2.1
  have hv : Hid (r = if roomR y.params x f.regs then 0 else 35) := hr.out.symm.trans (by
    simp only [opR, opndE, Int.reduceEq, false_and, false_or, or_false, true_or, or_true, if_false, if_true, hp])
  clear hl hy hp hr c1 c2 c3
  have hbI : 0 ≤ i.b ∧ i.b < (M.fns.length : Int) := by omega
  clear hk hlt
  obtain ⟨x1, x2⟩ := hx
  generalize y.params = k at *
  by_cases hz : k = 0
  · subst hz
    by_cases hx0 : x = 0
    · have hv2 : Hid (r = 0) := hv.out.trans (if_pos (by rintro (q | q) <;> omega))
      go_enter Tryz.func91, Tryz.ntmps91
      go_wp2
      go_ret
      exact ⟨ret_i hv2.out.symm, boxed3 _ _ _ _⟩
    · have hv2 : Hid (r = 35) := hv.out.trans (if_neg (fun q => q (.inl ⟨rfl, hx0⟩)))
      go_enter Tryz.func91, Tryz.ntmps91
      go_wp2
      go_ret
      exact ⟨ret_i hv2.out.symm, boxed3 _ _ _ _⟩
  · by_cases hp : 0 < k
    · by_cases hx0 : x < 0
      · have hv2 : Hid (r = 35) := hv.out.trans (if_neg (fun q => q (.inr ⟨hp, .inl hx0⟩)))
        go_enter Tryz.func91, Tryz.ntmps91
        go_wp2
        go_ret
        exact ⟨ret_i hv2.out.symm, boxed3 _ _ _ _⟩
      · by_cases hx1 : f.regs - k < x
        · have hv2 : Hid (r = 35) := hv.out.trans (if_neg (fun q => q (.inr ⟨hp, .inr hx1⟩)))
          go_enter Tryz.func91, Tryz.ntmps91
          go_wp2
          go_ret
          exact ⟨ret_i hv2.out.symm, boxed3 _ _ _ _⟩
        · have hv2 : Hid (r = 0) := hv.out.trans (if_pos (by rintro (q | q) <;> omega))
          go_enter Tryz.func91, Tryz.ntmps91
          go_wp2
          go_ret
          exact ⟨ret_i hv2.out.symm, boxed3 _ _ _ _⟩
    · have hv2 : Hid (r = 0) := hv.out.trans (if_pos (by rintro (q | q) <;> omega))
      go_enter Tryz.func91, Tryz.ntmps91
      go_wp2
      go_ret
      exact ⟨ret_i hv2.out.symm, boxed3 _ _ _ _⟩
/-- Every operand, whatever its letter. -/
theorem roperand_any (hl : M.lies w) (hx64 : I64 x) (h0 : 0 ≤ f.regs) (h8 : f.regs ≤ 8) (hp : l = 112 → 0 ≤ i.b ∧ i.b < (M.fns.length : Int)) (hr : Hid (opR M f i x l = r)) :
    Calls Tryz.prog 91 #[M.val, f.val, .int .u8 l, .int .i64 x, i.val] w fun e w' => e = .returned (.int .i64 r) ∧ Below w.heap.size w w' := by
  by_cases l1 : l = 111
  · subst l1
    by_cases hx : x = -1
    · exact rop_o_none M f i x w r hx hr
    by_cases h : 0 ≤ x ∧ x < f.regs
    · exact rop_o_t M f i x w r hx h hr
    · exact rop_o_f M f i x w r hx h hr
  by_cases l2 : l = 114
  · subst l2
    by_cases h : 0 ≤ x ∧ x < f.regs
    · exact rop_r_t M f i x w r h hr
    · exact rop_r_f M f i x w r h hr
  by_cases l3 : l = 119
  · subst l3
    by_cases h : 0 ≤ x ∧ x < f.regs
    · exact rop_w_t M f i x w r h hr
    · exact rop_w_f M f i x w r h hr
  by_cases l4 : l = 112
  · subst l4
    have hb := hp rfl
    obtain ⟨y, hy, _⟩ := get_lt M.fns i.b.toNat (by omega)
    exact rop_p M f i x w r i.b.toNat y (by omega) hy hl hx64 h0 h8 hr
  by_cases l5 : l = 97
  · subst l5
    by_cases h : 0 ≤ x ∧ x < (M.vars.length : Int)
    · obtain ⟨y, hy, _⟩ := get_lt M.vars x.toNat (by omega)
      exact rop_a_t M f i x w r x.toNat y (by omega) hy hl hr
    · exact rop_a_f M f i x w r h hr
  by_cases l6 : l = 118
  · subst l6
    by_cases h : 0 ≤ x ∧ x < (M.vars.length : Int)
    · exact rop_v_t M f i x w r h hr
    · exact rop_v_f M f i x w r h hr
  by_cases l7 : l = 108
  · subst l7
    by_cases h : 0 ≤ x ∧ x < M.locks
    · exact rop_l_t M f i x w r h hr
    · exact rop_l_f M f i x w r h hr
  by_cases l8 : l = 99
  · subst l8
    by_cases h : 0 ≤ x ∧ x < (M.chans.length : Int)
    · exact rop_c_t M f i x w r h hr
    · exact rop_c_f M f i x w r h hr
  by_cases l9 : l = 115
  · subst l9
    by_cases h : 0 ≤ x ∧ x < (f.sels.length : Int)
    · exact rop_s_t M f i x w r h hr
    · exact rop_s_f M f i x w r h hr
  by_cases l10 : l = 102
  · subst l10
    by_cases h : 0 ≤ x ∧ x < (M.fns.length : Int)
    · exact rop_f_t M f i x w r h hr
    · exact rop_f_f M f i x w r h hr
  by_cases l11 : l = 116
  · subst l11
    by_cases h : 0 ≤ x ∧ x < (f.code.length : Int)
    · exact rop_t_t M f i x w r h hr
    · exact rop_t_f M f i x w r h hr
  exact rop_else M f i x w r l l1 l2 l3 l4 l5 l6 l7 l8 l9 l10 l11 hr
end
end Go.Proofs.YtonkcnaijcpfdaaGreatDoor.pg
