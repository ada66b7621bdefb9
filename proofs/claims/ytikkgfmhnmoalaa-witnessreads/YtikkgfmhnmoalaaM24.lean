/- Every Read of a witness's bytes: the program's and the document's answer the same. -/
import Derived.Test.YtikkgfmhnmoalaaM23
import Derived.Test.YtikkgfmhnmoalaaM2
namespace Go.Proofs.Ytikkgfmhnmoalaa.pg
open Go.ChangeShapes Go.WideShapes Go.ChangeAt Go.RowKit
set_option linter.unusedVariables false
set_option linter.unusedSimpArgs false
set_option maxRecDepth 100000
section
variable {H : Type} {enc : TypeId × Value → H} {w : World} {base : Nat} {spare : Nat → Bool} {held : Bool}
theorem bytes_sz {n : Nat} {a : Option Addr} {len c : Nat} {y : DataW H × List MemPlace} (h : DataW.trod enc Try.prog w base spare held n 32 [.slice a len c] = some y) (hs : Sz Try.prog 32 y.1) : ∃ L : List Nat, L.length = len ∧ BytesL w a c L ∧ L.length ≤ reachBytes := by
  obtain ⟨l, rfl, hr, hq, hz⟩ := rows_sz (k := 1) (0 : Nat) u8c (fun x => x < 256) Try.underlying32 (by kernel_rfl) (by omega) (fun n cs y hl h _ => by
    match cs, hl, h with
    | [v], _, h =>
      obtain ⟨z, rfl, hz⟩ := u8_inW Try.underlying5 h
      exact ⟨z, rfl, hz⟩) h hs
  refine ⟨l, rfl, ⟨hr, hq⟩, ?_⟩
  rw [show Try.prog.bytesOf 5 = 1 by kernel_rfl] at hz
  omega
end
/-- What Read answers, as a relation: it tells at most one answer of given bytes. -/
def RdR (f : Nat → Nat) (n : Nat) (M : Wi) (x y : Int) : Prop :=
  ((unfP f n).1 ≠ 0 ∧ M = zeroWi ∧ x = (unfP f n).1 ∧ y = (unfP f n).2)
  ∨ ((unfP f n).1 = 0 ∧ (rdE f n).1 ≠ 0 ∧ M = zeroWi ∧ x = (rdE f n).1 ∧ y = (rdE f n).2)
  ∨ ((unfP f n).1 = 0 ∧ (rdE f n).1 = 0 ∧ ∃ pk, M = { rdM f n with pk := pk } ∧ x = 0 ∧ y = 0 ∧ pk.flatMap (fun p => [p.1, p.2]) = (rdP (partF f) (n - 12) (rdL (partF f) (n - 12) headB 0 0).at_ (rdL (partF f) (n - 12) headB 0 0).k).vs)
theorem rdR_one {f : Nat → Nat} {n : Nat} {M N : Wi} {x y u v : Int} (h : RdR f n M x y) (k : RdR f n N u v) : N = M ∧ u = x ∧ v = y := by
  rcases h with ⟨a, rfl, rfl, rfl⟩ | ⟨a, b, rfl, rfl, rfl⟩ | ⟨a, b, p, rfl, rfl, rfl, e⟩
  · rcases k with ⟨a', rfl, rfl, rfl⟩ | ⟨a', b', rfl, rfl, rfl⟩ | ⟨a', b', p', rfl, rfl, rfl, e'⟩
    · exact ⟨rfl, rfl, rfl⟩
    · exact absurd a' a
    · exact absurd a' a
  · rcases k with ⟨a', rfl, rfl, rfl⟩ | ⟨a', b', rfl, rfl, rfl⟩ | ⟨a', b', p', rfl, rfl, rfl, e'⟩
    · exact absurd a a'
    · exact ⟨rfl, rfl, rfl⟩
    · exact absurd b' b
  · rcases k with ⟨a', rfl, rfl, rfl⟩ | ⟨a', b', rfl, rfl, rfl⟩ | ⟨a', b', p', rfl, rfl, rfl, e'⟩
    · exact absurd a a'
    · exact absurd b b'
    · rw [flat2_inj (e'.trans e.symm)]
      exact ⟨rfl, rfl, rfl⟩
theorem rows_nil2 (w : World) : Rows w 2 none 0 (([] : List (Int × Int)).map pkC) := ⟨Nat.le_refl _, by decide, fun _ => ⟨rfl, rfl⟩, .inl rfl⟩
theorem read_rel (L : List Nat) (a : Option Addr) (c : Nat) (w : World) (h : BytesL w a c L) : Calls Try.prog 11 #[.slice a L.length c] w fun e w' => ∃ (M : Wi) (x y : Int) (pa : Option Addr) (pc : Nat), RdR (fl L) L.length M x y ∧ e = .returned (.tuple #[.agg (wiA M pa pc), .int .i64 x, .int .i64 y]) ∧ Rows w' 2 pa pc (M.pk.map pkC) ∧ Below w.heap.size w w' := by
  by_cases hu : (unfP (fl L) L.length).1 = 0
  · refine (read_fit a L.length c (fl L) w h.row h.len h.cap hu).mono ?_
    rintro e w' ⟨hb, h1, h2⟩
    by_cases hE : (rdE (fl L) L.length).1 = 0
    · obtain ⟨pk, pa, pc, rfl, ho, hpk⟩ := h2 hE
      exact ⟨_, _, _, pa, pc, .inr (.inr ⟨hu, hE, pk, rfl, rfl, rfl, hpk⟩), rfl, own_rows ho (pk_len _), hb⟩
    · exact ⟨_, _, _, none, 0, .inr (.inl ⟨hu, hE, rfl, rfl, rfl⟩), h1 hE, rows_nil2 _, hb⟩
  · refine (read_unfit a L.length c (fl L) w h.row h.len h.cap hu).mono ?_
    rintro e w' ⟨rfl, hb⟩
    exact ⟨_, _, _, none, 0, .inl ⟨hu, rfl, rfl, rfl⟩, rfl, rows_nil2 _, hb⟩
theorem rread_rel (L : List Nat) (a : Option Addr) (c : Nat) (w : World) (h : BytesL w a c L) : Calls Try.prog 12 #[.slice a L.length c] w fun e w' => ∃ (M : Wi) (x y : Int) (pa : Option Addr) (pc : Nat), RdR (fl L) L.length M x y ∧ e = .returned (.tuple #[.agg (wiA M pa pc), .int .i64 x, .int .i64 y]) ∧ Rows w' 2 pa pc (M.pk.map pkC) ∧ Below w.heap.size w w' := by
  by_cases hu : (unfP (fl L) L.length).1 = 0
  · obtain ⟨_, hn12, hn65, hm, hs⟩ := unf_fit hu
    obtain ⟨b, off, rfl⟩ := row_addr h.row (by omega)
    have hf := fl_lt h.b
    obtain ⟨_, e0, e1, e2, e3⟩ := (magB_four hf).mp hm
    refine (rread_fit b off L.length c (fl L) h.row (by omega) (by omega) e0 e1 e2 e3 (by omega) h.len h.cap ((sumK_big hf (by omega)).mp hs) hu).mono ?_
    rintro e w' ⟨hb, h1, h2⟩
    by_cases hE : (rdE (fl L) L.length).1 = 0
    · obtain ⟨pk, pa, pc, rfl, ho, hpk⟩ := h2 hE
      exact ⟨_, _, _, pa, pc, .inr (.inr ⟨hu, hE, pk, rfl, rfl, rfl, hpk⟩), rfl, ho, hb⟩
    · exact ⟨_, _, _, none, 0, .inr (.inl ⟨hu, hE, rfl, rfl, rfl⟩), h1 hE, rows_nil2 _, hb⟩
  · refine (rread_unfit a L.length c (fl L) w h.row h.len h.cap hu).mono ?_
    rintro e w' ⟨rfl, hb⟩
    exact ⟨_, _, _, none, 0, .inl ⟨hu, rfl, rfl, rfl⟩, rfl, rows_nil2 _, hb⟩
section
variable {w : World}
set_option maxHeartbeats 8000000 in
theorem reads_row (L : List Nat) (a : Option Addr) (c : Nat) (w : World) (hin : BytesL w a c L ∧ L.length ≤ reachBytes) : Calls Try.prog 4 #[.slice a L.length c] w fun e w' => e = .returned (.bool true) ∧ Below w.heap.size w w' := by
  have hsz := hin.2
  unfold reachBytes at hsz
  have hLH : Hid (∀ wx, Below w.heap.size w wx → BytesL wx a c L) := fun wx h => hin.1.later h
  have hbt : Hid (Bt L) := hin.1.b
  have hrH : Hid (Rows w 1 a c (L.map u8c)) := hin.1.r
  have hszH : Hid ((0 + L.length) * 1 ≤ 140737488355328) := by simp only [Hid]; omega
  have hmxH : Hid (0 + L.length ≤ maxLen) := by unfold maxLen; simp only [Hid]; omega
  obtain ⟨iU, hiU, hzU, hsU, hbU⟩ := info_q infoB
  have c1 : ∀ va vc wx, BytesL wx va vc L → Calls Try.prog 11 #[.slice va L.length vc] wx _ := fun va vc wx h => read_rel L va vc wx h
  have c2 : ∀ wx, BytesL wx a c L → Calls Try.prog 12 #[.slice a L.length c] wx _ := fun wx h => rread_rel L a c wx h
  have cE : ∀ (M : Wi) pa pc pb pd wx, Rows wx 2 pa pc (M.pk.map pkC) → Rows wx 2 pb pd (M.pk.map pkC) → Calls Try.prog 13 #[.agg (wiA M pa pc), .agg (wiA M pb pd)] wx fun e w' => e = .returned (.bool true) ∧ Below wx.heap.size wx w' := fun M pa pc pb pd wx h h2 => sameW_any M _ _ _ _ wx h h2
  have cZ : ∀ va vc wx, BytesL wx a c L → BytesL wx va vc L → Calls Try.prog 9 #[.slice a L.length c, .slice va L.length vc] wx _ := fun va vc wx h1 h2 => same_bytes L a va c vc wx h1 h2
  have cS : ∀ wx, Calls Try.prog 10 #[] wx _ := fun wx => smallW_any wx
  clear hin hsz
  go_enter Try.func4, Try.ntmps4
  go_wp2_with (first
    | (at_builtin; (refine wpList_app rfl (.tmp 10) (.tmp 11) 32 rfl w.heap.size 5 iU _ 1 1 Try.underlying32 hiU hzU hsU hbU rfl (by decide) none 0 [] rfl (own_nil_q _ _ _ _) a c (L.map u8c) (by rw [List.length_map]; rfl) hrH.out (u8_len L) (u8_one L) (by rw [List.length_map]; exact hmxH.out) (by rw [List.length_map]; exact hszH.out) (Nat.le_refl _) ?_); intro va vc w1 ho1 hk1 hb1 hbl1; (have hlen : ([] ++ L.map u8c).length = L.length := by simp); rw [hlen]; clear hlen; (have oc : Hid (BytesL w1 va vc L) := own_bytes ho1 hbt.out); (have e1 : Hid (Below w.heap.size w w1) := by rw [Nat.min_self] at hb1; exact hb1); clear ho1 hk1 hb1 hbl1)
    | (go_at_call 11; (with_reducible refine (c1 _ _ _ oc.out).mono ?_); rintro e w2 ⟨M, x, y, pa, pc, hR, rfl, hp2, hb2⟩;
        (have bA := bthen hb2 (boxed w2 (.cells (wiA M pa pc) 31)));
        (have l1 : Hid ((w2.alloc (.cells (wiA M pa pc) 31)).heap[w2.heap.size]? = some (.cells (wiA M pa pc) 31)) := heap_alloc_new _ _);
        (have z1 : Hid (w2.heap.size < (w2.alloc (.cells (wiA M pa pc) 31)).heap.size) := by show _ < _; rw [World.size_alloc]; omega);
        (have e2 : Hid (Below w.heap.size w (w2.alloc (.cells (wiA M pa pc) 31))) := bthen e1.out bA);
        (have oc2 : Hid (BytesL (w2.alloc (.cells (wiA M pa pc) 31)) va vc L) := oc.out.later bA);
        (have p2 : Hid (Rows (w2.alloc (.cells (wiA M pa pc) 31)) 2 pa pc (M.pk.map pkC)) := hp2.later (boxed _ _)); (have hRH : Hid (RdR (fl L) L.length M x y) := hR); clear hb2 bA hp2 hR)
    | (go_at_call 12; (with_reducible refine (c2 _ (hLH.out _ e2.out)).mono ?_); rintro e w3 ⟨N, u, v, pb, pd, hR, rfl, hp3, hb3⟩; (obtain ⟨hN, hu, hv⟩ := rdR_one hRH.out hR); rw [hN] at hp3 ⊢; rw [hu, hv]; clear hN hu hv hR;
        (have bB := bthen hb3 (boxed w3 (.cells (wiA M pb pd) 31)));
        (have l2 := heap_alloc_new w3 (.cells (wiA M pb pd) 31));
        (have l3 : Hid ((w3.alloc (.cells (wiA M pb pd) 31)).heap[w2.heap.size]? = some (.cells (wiA M pa pc) 31)) := (bB.block _ z1.out).trans l1.out);
        (have e3 : Hid (Below w.heap.size w (w3.alloc (.cells (wiA M pb pd) 31))) := bthen e2.out bB);
        (have oc3 : Hid (BytesL (w3.alloc (.cells (wiA M pb pd) 31)) va vc L) := oc2.out.later bB);
        (have p3 : Hid (Rows (w3.alloc (.cells (wiA M pb pd) 31)) 2 pa pc (M.pk.map pkC)) := p2.out.later bB);
        (have q3 : Hid (Rows (w3.alloc (.cells (wiA M pb pd) 31)) 2 pb pd (M.pk.map pkC)) := hp3.later (boxed _ _));
        (obtain ⟨k0, k1, k2, k3, k4, k5, k6, k7, k8, k9, k10, k11⟩ := cells12 l3.out); (obtain ⟨j0, j1, j2, j3, j4, j5, j6, j7, j8, j9, j10, j11⟩ := cells12 l2); clear hb3 bB hp3 l1 l2 l3)
    | (go_at_call 13; (with_reducible refine (cE M _ _ _ _ _ p3.out q3.out).mono ?_); rintro e w4 ⟨rfl, hb4⟩; (have e4 : Hid (Below w.heap.size w w4) := bthen e3.out hb4); (have oc4 : Hid (BytesL w4 va vc L) := oc3.out.later hb4); clear hb4 k0 k1 k2 k3 k4 k5 k6 k7 k8 k9 k10 k11 j0 j1 j2 j3 j4 j5 j6 j7 j8 j9 j10 j11; (have hxx : (x == x) = true := by simp); (have hyy : (y == y) = true := by simp))
    | (go_at_call 9; (with_reducible refine (cZ _ _ _ (hLH.out _ e4.out) oc4.out).mono ?_); rintro e w5 ⟨rfl, h5⟩; rw [h5])
    | (go_at_call 10; (with_reducible refine (cS _).mono ?_); rintro e w6 ⟨rfl, hb6⟩))
  go_ret
  exact ⟨rfl, bthen e4.out hb6⟩
end
end Go.Proofs.Ytikkgfmhnmoalaa.pg

