/- The contracts of slices.Clone at the types of a program's lists: a list of the call's own, equal to what was handed in. -/
import Derived.Test.YtaghfahhfockkaaCp6
import Derived.Laws.Cover3
namespace Go.Proofs.Ytaghfahhfockkaa.pg
open Go.ChangeShapes Go.WideShapes Go.ChangeAt Go.RowKit
set_option linter.unusedVariables false
set_option linter.unusedSimpArgs false
set_option maxRecDepth 100000
theorem eql_nil {P : Program} (w : World) (t e : TypeId) (a : Option Addr) (l c : Nat) (h : P.underlying t = some (.slice e)) : (binOp .eql t (.slice a l c) (.slice none 0 0)).run P w = .ok (.bool a.isNone) w := by
  simp [binOp, run_equal_slice_nil w t e a l c h]
theorem own_base (w : World) (e k : Nat) : OwnL (w.alloc (.cells #[] e)) w.heap.size e k (some ⟨w.heap.size, 0, none⟩) 0 [] :=
  ⟨by simp, .inr ⟨w.heap.size, 0, #[], rfl, Nat.le_refl _, heap_alloc_new w _, Nat.le_refl _, by decide, by simp, by simp⟩⟩
set_option maxHeartbeats 2000000 in
theorem clone_Var (L : List (List Value)) (a : Option Addr) (cap : Nat) (w : World) (h : Rows w 2 a cap L) (hk : ∀ row ∈ L, row.length = 2) (h1 : ∀ row ∈ L, ∀ u ∈ row, u.oneCell' = true) (hz : L.length * 16 ≤ 140737488355328) :
    Calls Try.prog 8 #[.slice a L.length cap] w fun e w' => ∃ va vc, e = .returned (.slice va L.length vc) ∧ OwnL w' w.heap.size 31 2 va vc L ∧ Below w.heap.size w w' := by
  obtain ⟨i, hi, hzz, hs, hb⟩ := info_of infoV
  cases a with
  | none =>
    obtain ⟨h0, h2⟩ := h.2.2.1 rfl
    subst h0
    subst h2
    have hen : ∀ wx, (binOp .eql 22 (.slice none 0 0) (.slice none 0 0)).run Try.prog wx = .ok (.bool true) wx := fun wx => eql_nil wx _ _ none _ _ Try.underlying22
    go_enter Try.func8, Try.ntmps8
    go_wp2
    go_ret
    exact ⟨none, 0, rfl, own_nil _ _ _ _, Below.refl _ _⟩
  | some ad =>
    have hbs : Hid (w.heap.size ≤ (w.alloc (.cells #[] 31)).heap.size) := by simp only [Hid, World.size_alloc]; omega
    have hgo : Hid (OwnL (w.alloc (.cells #[] 31)) w.heap.size 31 2 (some ⟨w.heap.size, 0, none⟩) 0 []) := own_base w _ _
    have hrow : Hid (Rows (w.alloc (.cells #[] 31)) 2 (some ad) cap L) := h.later (boxed _ _)
    have hbe : Hid (Below w.heap.size w (w.alloc (.cells #[] 31))) := boxed _ _
    have hmx : Hid (L.length ≤ maxLen) := by show _ ≤ _; unfold maxLen; omega
    have hzH : Hid (L.length * 16 ≤ 140737488355328) := hz
    have hen : ∀ wx, (binOp .eql 22 (.slice (some ad) L.length cap) (.slice none 0 0)).run Try.prog wx = .ok (.bool false) wx := fun wx => eql_nil wx _ _ (some ad) _ _ Try.underlying22
    clear h hz
    go_enter Try.func8, Try.ntmps8
    go_wp2_with (first
      | (at_builtin; (refine wpList_app rfl (.tmp 5) (.tmp 6) 22 rfl w.heap.size 31 i _ 2 16 Try.underlying22 hi hzz hs hb rfl (by decide) (some ⟨w.heap.size, 0, none⟩) 0 [] rfl hgo.out (some ad) cap L rfl hrow.out hk h1 (by have := hmx.out; simpa using this) (by have := hzH.out; simpa using this) hbs.out ?_); intro va' vc' w2 ho2 hk2 hB2 hbl2; simp only [List.nil_append] at ho2 ⊢))
    go_ret
    exact ⟨va', vc', rfl, ho2, below_keep hbe.out hbs.out hB2⟩
set_option maxHeartbeats 2000000 in
theorem clone_Int (L : List (List Value)) (a : Option Addr) (cap : Nat) (w : World) (h : Rows w 1 a cap L) (hk : ∀ row ∈ L, row.length = 1) (h1 : ∀ row ∈ L, ∀ u ∈ row, u.oneCell' = true) (hz : L.length * 8 ≤ 140737488355328) :
    Calls Try.prog 9 #[.slice a L.length cap] w fun e w' => ∃ va vc, e = .returned (.slice va L.length vc) ∧ OwnL w' w.heap.size 3 1 va vc L ∧ Below w.heap.size w w' := by
  obtain ⟨i, hi, hzz, hs, hb⟩ := info_of infoN
  cases a with
  | none =>
    obtain ⟨h0, h2⟩ := h.2.2.1 rfl
    subst h0
    subst h2
    have hen : ∀ wx, (binOp .eql 23 (.slice none 0 0) (.slice none 0 0)).run Try.prog wx = .ok (.bool true) wx := fun wx => eql_nil wx _ _ none _ _ Try.underlying23
    go_enter Try.func9, Try.ntmps9
    go_wp2
    go_ret
    exact ⟨none, 0, rfl, own_nil _ _ _ _, Below.refl _ _⟩
  | some ad =>
    have hbs : Hid (w.heap.size ≤ (w.alloc (.cells #[] 3)).heap.size) := by simp only [Hid, World.size_alloc]; omega
    have hgo : Hid (OwnL (w.alloc (.cells #[] 3)) w.heap.size 3 1 (some ⟨w.heap.size, 0, none⟩) 0 []) := own_base w _ _
    have hrow : Hid (Rows (w.alloc (.cells #[] 3)) 1 (some ad) cap L) := h.later (boxed _ _)
    have hbe : Hid (Below w.heap.size w (w.alloc (.cells #[] 3))) := boxed _ _
    have hmx : Hid (L.length ≤ maxLen) := by show _ ≤ _; unfold maxLen; omega
    have hzH : Hid (L.length * 8 ≤ 140737488355328) := hz
    have hen : ∀ wx, (binOp .eql 23 (.slice (some ad) L.length cap) (.slice none 0 0)).run Try.prog wx = .ok (.bool false) wx := fun wx => eql_nil wx _ _ (some ad) _ _ Try.underlying23
    clear h hz
    go_enter Try.func9, Try.ntmps9
    go_wp2_with (first
      | (at_builtin; (refine wpList_app rfl (.tmp 5) (.tmp 6) 23 rfl w.heap.size 3 i _ 1 8 Try.underlying23 hi hzz hs hb rfl (by decide) (some ⟨w.heap.size, 0, none⟩) 0 [] rfl hgo.out (some ad) cap L rfl hrow.out hk h1 (by have := hmx.out; simpa using this) (by have := hzH.out; simpa using this) hbs.out ?_); intro va' vc' w2 ho2 hk2 hB2 hbl2; simp only [List.nil_append] at ho2 ⊢))
    go_ret
    exact ⟨va', vc', rfl, ho2, below_keep hbe.out hbs.out hB2⟩
set_option maxHeartbeats 2000000 in
theorem clone_Func (L : List (List Value)) (a : Option Addr) (cap : Nat) (w : World) (h : Rows w 4 a cap L) (hk : ∀ row ∈ L, row.length = 4) (h1 : ∀ row ∈ L, ∀ u ∈ row, u.oneCell' = true) (hz : L.length * 64 ≤ 140737488355328) :
    Calls Try.prog 10 #[.slice a L.length cap] w fun e w' => ∃ va vc, e = .returned (.slice va L.length vc) ∧ OwnL w' w.heap.size 35 4 va vc L ∧ Below w.heap.size w w' := by
  obtain ⟨i, hi, hzz, hs, hb⟩ := info_of infoF
  cases a with
  | none =>
    obtain ⟨h0, h2⟩ := h.2.2.1 rfl
    subst h0
    subst h2
    have hen : ∀ wx, (binOp .eql 24 (.slice none 0 0) (.slice none 0 0)).run Try.prog wx = .ok (.bool true) wx := fun wx => eql_nil wx _ _ none _ _ Try.underlying24
    go_enter Try.func10, Try.ntmps10
    go_wp2
    go_ret
    exact ⟨none, 0, rfl, own_nil _ _ _ _, Below.refl _ _⟩
  | some ad =>
    have hbs : Hid (w.heap.size ≤ (w.alloc (.cells #[] 35)).heap.size) := by simp only [Hid, World.size_alloc]; omega
    have hgo : Hid (OwnL (w.alloc (.cells #[] 35)) w.heap.size 35 4 (some ⟨w.heap.size, 0, none⟩) 0 []) := own_base w _ _
    have hrow : Hid (Rows (w.alloc (.cells #[] 35)) 4 (some ad) cap L) := h.later (boxed _ _)
    have hbe : Hid (Below w.heap.size w (w.alloc (.cells #[] 35))) := boxed _ _
    have hmx : Hid (L.length ≤ maxLen) := by show _ ≤ _; unfold maxLen; omega
    have hzH : Hid (L.length * 64 ≤ 140737488355328) := hz
    have hen : ∀ wx, (binOp .eql 24 (.slice (some ad) L.length cap) (.slice none 0 0)).run Try.prog wx = .ok (.bool false) wx := fun wx => eql_nil wx _ _ (some ad) _ _ Try.underlying24
    clear h hz
    go_enter Try.func10, Try.ntmps10
    go_wp2_with (first
      | (at_builtin; (refine wpList_app rfl (.tmp 5) (.tmp 6) 24 rfl w.heap.size 35 i _ 4 64 Try.underlying24 hi hzz hs hb rfl (by decide) (some ⟨w.heap.size, 0, none⟩) 0 [] rfl hgo.out (some ad) cap L rfl hrow.out hk h1 (by have := hmx.out; simpa using this) (by have := hzH.out; simpa using this) hbs.out ?_); intro va' vc' w2 ho2 hk2 hB2 hbl2; simp only [List.nil_append] at ho2 ⊢))
    go_ret
    exact ⟨va', vc', rfl, ho2, below_keep hbe.out hbs.out hB2⟩
set_option maxHeartbeats 2000000 in
theorem clone_Instr (L : List (List Value)) (a : Option Addr) (cap : Nat) (w : World) (h : Rows w 5 a cap L) (hk : ∀ row ∈ L, row.length = 5) (h1 : ∀ row ∈ L, ∀ u ∈ row, u.oneCell' = true) (hz : L.length * 40 ≤ 140737488355328) :
    Calls Try.prog 11 #[.slice a L.length cap] w fun e w' => ∃ va vc, e = .returned (.slice va L.length vc) ∧ OwnL w' w.heap.size 47 5 va vc L ∧ Below w.heap.size w w' := by
  obtain ⟨i, hi, hzz, hs, hb⟩ := info_of infoI
  cases a with
  | none =>
    obtain ⟨h0, h2⟩ := h.2.2.1 rfl
    subst h0
    subst h2
    have hen : ∀ wx, (binOp .eql 32 (.slice none 0 0) (.slice none 0 0)).run Try.prog wx = .ok (.bool true) wx := fun wx => eql_nil wx _ _ none _ _ Try.underlying32
    go_enter Try.func11, Try.ntmps11
    go_wp2
    go_ret
    exact ⟨none, 0, rfl, own_nil _ _ _ _, Below.refl _ _⟩
  | some ad =>
    have hbs : Hid (w.heap.size ≤ (w.alloc (.cells #[] 47)).heap.size) := by simp only [Hid, World.size_alloc]; omega
    have hgo : Hid (OwnL (w.alloc (.cells #[] 47)) w.heap.size 47 5 (some ⟨w.heap.size, 0, none⟩) 0 []) := own_base w _ _
    have hrow : Hid (Rows (w.alloc (.cells #[] 47)) 5 (some ad) cap L) := h.later (boxed _ _)
    have hbe : Hid (Below w.heap.size w (w.alloc (.cells #[] 47))) := boxed _ _
    have hmx : Hid (L.length ≤ maxLen) := by show _ ≤ _; unfold maxLen; omega
    have hzH : Hid (L.length * 40 ≤ 140737488355328) := hz
    have hen : ∀ wx, (binOp .eql 32 (.slice (some ad) L.length cap) (.slice none 0 0)).run Try.prog wx = .ok (.bool false) wx := fun wx => eql_nil wx _ _ (some ad) _ _ Try.underlying32
    clear h hz
    go_enter Try.func11, Try.ntmps11
    go_wp2_with (first
      | (at_builtin; (refine wpList_app rfl (.tmp 5) (.tmp 6) 32 rfl w.heap.size 47 i _ 5 40 Try.underlying32 hi hzz hs hb rfl (by decide) (some ⟨w.heap.size, 0, none⟩) 0 [] rfl hgo.out (some ad) cap L rfl hrow.out hk h1 (by have := hmx.out; simpa using this) (by have := hzH.out; simpa using this) hbs.out ?_); intro va' vc' w2 ho2 hk2 hB2 hbl2; simp only [List.nil_append] at ho2 ⊢))
    go_ret
    exact ⟨va', vc', rfl, ho2, below_keep hbe.out hbs.out hB2⟩
set_option maxHeartbeats 2000000 in
theorem clone_Select (L : List (List Value)) (a : Option Addr) (cap : Nat) (w : World) (h : Rows w 2 a cap L) (hk : ∀ row ∈ L, row.length = 2) (h1 : ∀ row ∈ L, ∀ u ∈ row, u.oneCell' = true) (hz : L.length * 32 ≤ 140737488355328) :
    Calls Try.prog 12 #[.slice a L.length cap] w fun e w' => ∃ va vc, e = .returned (.slice va L.length vc) ∧ OwnL w' w.heap.size 39 2 va vc L ∧ Below w.heap.size w w' := by
  obtain ⟨i, hi, hzz, hs, hb⟩ := info_of infoS
  cases a with
  | none =>
    obtain ⟨h0, h2⟩ := h.2.2.1 rfl
    subst h0
    subst h2
    have hen : ∀ wx, (binOp .eql 33 (.slice none 0 0) (.slice none 0 0)).run Try.prog wx = .ok (.bool true) wx := fun wx => eql_nil wx _ _ none _ _ Try.underlying33
    go_enter Try.func12, Try.ntmps12
    go_wp2
    go_ret
    exact ⟨none, 0, rfl, own_nil _ _ _ _, Below.refl _ _⟩
  | some ad =>
    have hbs : Hid (w.heap.size ≤ (w.alloc (.cells #[] 39)).heap.size) := by simp only [Hid, World.size_alloc]; omega
    have hgo : Hid (OwnL (w.alloc (.cells #[] 39)) w.heap.size 39 2 (some ⟨w.heap.size, 0, none⟩) 0 []) := own_base w _ _
    have hrow : Hid (Rows (w.alloc (.cells #[] 39)) 2 (some ad) cap L) := h.later (boxed _ _)
    have hbe : Hid (Below w.heap.size w (w.alloc (.cells #[] 39))) := boxed _ _
    have hmx : Hid (L.length ≤ maxLen) := by show _ ≤ _; unfold maxLen; omega
    have hzH : Hid (L.length * 32 ≤ 140737488355328) := hz
    have hen : ∀ wx, (binOp .eql 33 (.slice (some ad) L.length cap) (.slice none 0 0)).run Try.prog wx = .ok (.bool false) wx := fun wx => eql_nil wx _ _ (some ad) _ _ Try.underlying33
    clear h hz
    go_enter Try.func12, Try.ntmps12
    go_wp2_with (first
      | (at_builtin; (refine wpList_app rfl (.tmp 5) (.tmp 6) 33 rfl w.heap.size 39 i _ 2 32 Try.underlying33 hi hzz hs hb rfl (by decide) (some ⟨w.heap.size, 0, none⟩) 0 [] rfl hgo.out (some ad) cap L rfl hrow.out hk h1 (by have := hmx.out; simpa using this) (by have := hzH.out; simpa using this) hbs.out ?_); intro va' vc' w2 ho2 hk2 hB2 hbl2; simp only [List.nil_append] at ho2 ⊢))
    go_ret
    exact ⟨va', vc', rfl, ho2, below_keep hbe.out hbs.out hB2⟩
set_option maxHeartbeats 2000000 in
theorem clone_Case (L : List (List Value)) (a : Option Addr) (cap : Nat) (w : World) (h : Rows w 4 a cap L) (hk : ∀ row ∈ L, row.length = 4) (h1 : ∀ row ∈ L, ∀ u ∈ row, u.oneCell' = true) (hz : L.length * 32 ≤ 140737488355328) :
    Calls Try.prog 13 #[.slice a L.length cap] w fun e w' => ∃ va vc, e = .returned (.slice va L.length vc) ∧ OwnL w' w.heap.size 51 4 va vc L ∧ Below w.heap.size w w' := by
  obtain ⟨i, hi, hzz, hs, hb⟩ := info_of infoC
  cases a with
  | none =>
    obtain ⟨h0, h2⟩ := h.2.2.1 rfl
    subst h0
    subst h2
    have hen : ∀ wx, (binOp .eql 37 (.slice none 0 0) (.slice none 0 0)).run Try.prog wx = .ok (.bool true) wx := fun wx => eql_nil wx _ _ none _ _ Try.underlying37
    go_enter Try.func13, Try.ntmps13
    go_wp2
    go_ret
    exact ⟨none, 0, rfl, own_nil _ _ _ _, Below.refl _ _⟩
  | some ad =>
    have hbs : Hid (w.heap.size ≤ (w.alloc (.cells #[] 51)).heap.size) := by simp only [Hid, World.size_alloc]; omega
    have hgo : Hid (OwnL (w.alloc (.cells #[] 51)) w.heap.size 51 4 (some ⟨w.heap.size, 0, none⟩) 0 []) := own_base w _ _
    have hrow : Hid (Rows (w.alloc (.cells #[] 51)) 4 (some ad) cap L) := h.later (boxed _ _)
    have hbe : Hid (Below w.heap.size w (w.alloc (.cells #[] 51))) := boxed _ _
    have hmx : Hid (L.length ≤ maxLen) := by show _ ≤ _; unfold maxLen; omega
    have hzH : Hid (L.length * 32 ≤ 140737488355328) := hz
    have hen : ∀ wx, (binOp .eql 37 (.slice (some ad) L.length cap) (.slice none 0 0)).run Try.prog wx = .ok (.bool false) wx := fun wx => eql_nil wx _ _ (some ad) _ _ Try.underlying37
    clear h hz
    go_enter Try.func13, Try.ntmps13
    go_wp2_with (first
      | (at_builtin; (refine wpList_app rfl (.tmp 5) (.tmp 6) 37 rfl w.heap.size 51 i _ 4 32 Try.underlying37 hi hzz hs hb rfl (by decide) (some ⟨w.heap.size, 0, none⟩) 0 [] rfl hgo.out (some ad) cap L rfl hrow.out hk h1 (by have := hmx.out; simpa using this) (by have := hzH.out; simpa using this) hbs.out ?_); intro va' vc' w2 ho2 hk2 hB2 hbl2; simp only [List.nil_append] at ho2 ⊢))
    go_ret
    exact ⟨va', vc', rfl, ho2, below_keep hbe.out hbs.out hB2⟩
end Go.Proofs.Ytaghfahhfockkaa.pg
