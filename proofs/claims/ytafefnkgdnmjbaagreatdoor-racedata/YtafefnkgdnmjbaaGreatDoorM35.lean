/- The kit's own contract of slices.SortFunc, laid at this seat's translation at a second type. -/
import Derived.Shelf.Small.Bits
import Derived.Shelf.Strconv.Itoa0
import Derived.Ground.SlsfProg
import Derived.Shelf.SlSortCmp.InsertionK
import Derived.Shelf.SlSortCmp.SiftDownK
import Derived.Shelf.SlSortCmp.HeapSortK
import Derived.Shelf.SlSortCmp.MedianK
import Derived.Shelf.SlSortCmp.PivotK
import Derived.Shelf.SlSortCmp.ReverseRangeK
import Derived.Shelf.SlSortCmp.PartialInsertionK
import Derived.Shelf.SlSortCmp.PartitionEqualK
import Derived.Shelf.SlSortCmp.PartitionK
import Derived.Shelf.SlSortCmp.PdqK
import Derived.Shelf.SlSortCmp.WholeK
import Derived.Test.YtafefnkgdnmjbaaGreatDoorProg
import Derived.Test.YtafefnkgdnmjbaaGreatDoorShelf
import Derived.Test.YtafefnkgdnmjbaaGreatDoorM34
import Derived.Test.YtafefnkgdnmjbaaGreatDoorM20
import Derived.Test.YtafefnkgdnmjbaaGreatDoorM32
import Derived.Lib.SliceRun
namespace Go.Proofs
open Go.Shelf
def Tryz.laysSlF06_f49_ren : Go.Shelf.Ren := ⟨fun | 6 => 49 | 15 => 99 | 14 => 98 | 28 => 136 | 29 => 137 | 20 => 128 | 21 => 129 | 22 => 130 | 23 => 131 | 24 => 132 | 25 => 133 | 26 => 134 | 27 => 135 | 46 => 156 | 47 => 157 | 48 => 158 | 49 => 159 | 50 => 160 | 57 => 175 | n => n, fun | 22 => 38 | 24 => 84 | 25 => 98 | 3 => 3 | 39 => 173 | 0 => 0 | 53 => 207 | 55 => 209 | 4 => 4 | 46 => 201 | 45 => 200 | 50 => 177 | 5 => 5 | 9 => 9 | 66 => 237 | 70 => 241 | 76 => 252 | 77 => 253 | n => n, fun | n => n⟩
theorem Tryz.laysSlF06_f49 : Go.Proofs.SlLaysF0.n6 Tryz.prog Tryz.laysSlF06_f49_ren := {
  mixed := by kernel_rfl
  f6 := ⟨Tryz.f49.name, by decide, Tryz.func49.trans (congrArg some (by kernel_rfl))⟩
  f14 := ⟨Tryz.f98.name, by decide, Tryz.func98.trans (congrArg some (by kernel_rfl))⟩
  f15 := Tryz.func99.trans (congrArg some (by kernel_rfl))
  f20 := ⟨Tryz.f128.name, by decide, Tryz.func128.trans (congrArg some (by kernel_rfl))⟩
  f21 := ⟨Tryz.f129.name, by decide, Tryz.func129.trans (congrArg some (by kernel_rfl))⟩
  f22 := ⟨Tryz.f130.name, by decide, Tryz.func130.trans (congrArg some (by kernel_rfl))⟩
  f23 := ⟨Tryz.f131.name, by decide, Tryz.func131.trans (congrArg some (by kernel_rfl))⟩
  f24 := ⟨Tryz.f132.name, by decide, Tryz.func132.trans (congrArg some (by kernel_rfl))⟩
  f25 := ⟨Tryz.f133.name, by decide, Tryz.func133.trans (congrArg some (by kernel_rfl))⟩
  f26 := ⟨Tryz.f134.name, by decide, Tryz.func134.trans (congrArg some (by kernel_rfl))⟩
  f27 := ⟨Tryz.f135.name, by decide, Tryz.func135.trans (congrArg some (by kernel_rfl))⟩
  f28 := Tryz.func136.trans (congrArg some (by kernel_rfl))
  f29 := Tryz.func137.trans (congrArg some (by kernel_rfl))
  f46 := ⟨Tryz.f156.name, by decide, Tryz.func156.trans (congrArg some (by kernel_rfl))⟩
  f47 := Tryz.func157.trans (congrArg some (by kernel_rfl))
  f48 := Tryz.func158.trans (congrArg some (by kernel_rfl))
  f49 := ⟨Tryz.f159.name, by decide, Tryz.func159.trans (congrArg some (by kernel_rfl))⟩
  f50 := ⟨Tryz.f160.name, by decide, Tryz.func160.trans (congrArg some (by kernel_rfl))⟩
  f57 := ⟨Tryz.f175.name, by decide, Tryz.func175.trans (congrArg some (by kernel_rfl))⟩
  t0 := Tryz.underlying0
  a0 := Tryz.isAgg0
  z0 := Tryz.sizeOf0
  v0 := Tryz.zeroValue0
  t3 := Tryz.underlying3
  a3 := Tryz.isAgg3
  z3 := Tryz.sizeOf3
  v3 := Tryz.zeroValue3
  t4 := Tryz.underlying4
  a4 := Tryz.isAgg4
  z4 := Tryz.sizeOf4
  v4 := Tryz.zeroValue4
  t5 := Tryz.underlying5
  a5 := Tryz.isAgg5
  z5 := Tryz.sizeOf5
  v5 := Tryz.zeroValue5
  t9 := Tryz.underlying9
  a9 := Tryz.isAgg9
  z9 := Tryz.sizeOf9
  v9 := Tryz.zeroValue9
  t22 := Tryz.underlying38
  a22 := Tryz.isAgg38
  z22 := Tryz.sizeOf38
  v22 := Tryz.zeroValue38
  t25 := Tryz.underlying98
  a25 := Tryz.isAgg98
  z25 := Tryz.sizeOf98
  v25 := Tryz.zeroValue98
  t39 := Tryz.underlying173
  a39 := Tryz.isAgg173
  z39 := Tryz.sizeOf173
  v39 := Tryz.zeroValue173
  t45 := Tryz.underlying200
  a45 := Tryz.isAgg200
  z45 := Tryz.sizeOf200
  v45 := Tryz.zeroValue200
  t46 := Tryz.underlying201
  a46 := Tryz.isAgg201
  z46 := Tryz.sizeOf201
  v46 := Tryz.zeroValue201
  t50 := Tryz.underlying177
  a50 := Tryz.isAgg177
  z50 := Tryz.sizeOf177
  v50 := Tryz.zeroValue177
  t53 := Tryz.underlying207
  a53 := Tryz.isAgg207
  z53 := Tryz.sizeOf207
  v53 := Tryz.zeroValue207
  t55 := Tryz.underlying209
  a55 := Tryz.isAgg209
  z55 := Tryz.sizeOf209
  v55 := Tryz.zeroValue209
  t66 := Tryz.underlying237
  a66 := Tryz.isAgg237
  z66 := Tryz.sizeOf237
  v66 := Tryz.zeroValue237
  t70 := Tryz.underlying241
  a70 := Tryz.isAgg241
  z70 := Tryz.sizeOf241
  v70 := Tryz.zeroValue241
  t76 := Tryz.underlying252
  a76 := Tryz.isAgg252
  z76 := Tryz.sizeOf252
  v76 := Tryz.zeroValue252
  t77 := Tryz.underlying253
  a77 := Tryz.isAgg253
  z77 := Tryz.sizeOf253
  v77 := Tryz.zeroValue253 }
open Go.RowKit Go.Lib Go.Sort in
theorem Tryz.slices_SortFd_eq {α : Type} [Inhabited α] (k : Nat) (aE : ∀ w, (isAgg 84).run Tryz.prog w = .ok true w) (zE : ∀ w, (Go.sizeOf 84).run Tryz.prog w = .ok k w) (enc : α → List Value) (hk : ∀ x, (enc x).length = k) (h1 : ∀ x, ∀ v ∈ enc x, v.oneCell' = true) (cf : α → α → Int) (hO : SWO (ltOf cf)) (g : Nat) (cb : Array Value) (blk off cap : Nat) (d : Array α) (w : World) (eg : ∀ args w, (callFunc g args).run Tryz.prog w = .ok (.enter g args) w) (hcmp : CmpLays Tryz.prog g cb enc k cf blk off d.size w) (hH : HoldsK enc k w blk off d) (hblk : blk < w.heap.size) (hsz : d.size < 4611686018427387904) :
    Calls Tryz.prog 49 #[.slice (some ⟨blk, off, none⟩) d.size cap, .func (.func g) #[] cb] w fun e w' =>
      e = .returned (.tuple #[]) ∧ ∃ n os, w' = sortWorldK enc k w blk off n (pdq (ltOf cf) d 0 d.size (Lib.bitLen d.size) true true) os := AnyQ.slices_SortFunc_eq Tryz.laysSlF06_f49 k aE zE enc hk h1 cf hO g cb blk off cap d w eg hcmp hH hblk hsz
open Go.RowKit Go.Lib Go.Sort in
theorem Tryz.slices_SortFd {α : Type} [Inhabited α] (k : Nat) (aE : ∀ w, (isAgg 84).run Tryz.prog w = .ok true w) (zE : ∀ w, (Go.sizeOf 84).run Tryz.prog w = .ok k w) (enc : α → List Value) (hk : ∀ x, (enc x).length = k) (h1 : ∀ x, ∀ v ∈ enc x, v.oneCell' = true) (cf : α → α → Int) (hO : SWO (ltOf cf)) (g : Nat) (cb : Array Value) (blk off cap : Nat) (d : Array α) (w : World) (eg : ∀ args w, (callFunc g args).run Tryz.prog w = .ok (.enter g args) w) (hcmp : CmpLays Tryz.prog g cb enc k cf blk off d.size w) (hH : HoldsK enc k w blk off d) (hblk : blk < w.heap.size) (hsz : d.size < 4611686018427387904) :
    Calls Tryz.prog 49 #[.slice (some ⟨blk, off, none⟩) d.size cap, .func (.func g) #[] cb] w fun e w' =>
      e = .returned (.tuple #[]) ∧ ∃ d' n os, PermIn 0 d.size d d' ∧ SortedIn (ltOf cf) 0 d.size d' ∧ w' = sortWorldK enc k w blk off n d' os := AnyQ.slices_SortFunc Tryz.laysSlF06_f49 k aE zE enc hk h1 cf hO g cb blk off cap d w eg hcmp hH hblk hsz
end Go.Proofs
/- Sorting what is found. -/
namespace Go.Proofs.YtafefnkgdnmjbaaGreatDoor.pg
open Go.ChangeShapes Go.WideShapes Go.ChangeAt Go.RowKit Go.Shelf
set_option linter.unusedVariables false
set_option linter.unusedSimpArgs false
set_option maxRecDepth 100000
attribute [local go_sem ↓] Go.wp_at_zero Go.wp_at_succ
theorem oneFd (x : Fd) : ∀ u ∈ Fd.cells x, u.oneCell' = true := by intro u hu; simp [Fd.cells] at hu; rcases hu with rfl | rfl | rfl | rfl | rfl | rfl | rfl <;> rfl
theorem cmp3_swo : Go.Sort.SWO (Go.Proofs.ltOf cmp3) where
  irrefl x := by have := good3.turn x x; simp [Go.Proofs.ltOf]; omega
  trans x y z h1 h2 := by
    have a1 := good3.tr x y z
    have a2 := good3.tr z x y
    have t1 := good3.turn x z
    have t2 := good3.turn y z
    simp [Go.Proofs.ltOf] at *
    omega
  ntrans x y z h1 h2 := by
    have a1 := good3.tr z y x
    have t1 := good3.turn x y
    have t2 := good3.turn y z
    have t3 := good3.turn x z
    simp [Go.Proofs.ltOf] at *
    omega
theorem cmp3_lays [Inhabited Fd] (blk off size : Nat) (w : World) : CmpLays Tryz.prog 50 #[] Fd.cells 7 cmp3 blk off size w :=
  fun m os dk hs x y => (cmp3_any x y _).mono fun e w' ⟨he, q, os', hq⟩ => ⟨he, q, os', hq.trans (Go.Sort.grow_grow ((Go.Proofs.sortWorldK Fd.cells 7 w blk off m dk os).drewN q) #[] os' |>.symm ▸ rfl)⟩
theorem own_holdsF [Inhabited Fd] {w : World} {lo g cap : Nat} {E : List Fd} (h : OwnL w lo 84 7 (some ⟨g, 0, none⟩) cap (E.map Fd.cells)) : Go.Sort.HoldsK Fd.cells 7 w g 0 E.toArray := by
  intro t ht
  rw [Go.Sort.size_flatK] at ht
  have hlt : t < E.length * 7 := by simpa using ht
  rw [Go.Sort.get_flatK _ _ _ _ ht, Nat.zero_add]
  have hi : t / 7 < E.length := by omega
  have hc := World.ownsRow.cellAt h t (by rw [List.length_map]; exact hlt)
  have ht2 : t = t / 7 * 7 + t % 7 := by omega
  constructor
  · rw [hc]
    conv => lhs; rw [ht2]
    rw [flatten_at (k := 7) (E.map Fd.cells) (fun row hr => by rw [List.mem_map] at hr; obtain ⟨y, _, rfl⟩ := hr; rfl) (t / 7) (Fd.cells E[t / 7]) (by rw [List.getElem?_map, List.getElem?_eq_getElem hi]; rfl) (t % 7) (by omega)]
    have e1 : E.toArray[t / 7]! = E[t / 7] := by simp [hi]
    rw [e1]
    have h2 : t % 7 < (Fd.cells E[t / 7]).length := by show t % 7 < 7; omega
    have h3 : (Fd.cells E[t / 7])[t % 7]! = (Fd.cells E[t / 7])[t % 7]'h2 := getElem!_pos (Fd.cells E[t / 7]) (t % 7) h2
    rw [List.getElem?_eq_getElem h2, h3]
    rfl
  · rcases h.2 with ⟨h1, _⟩ | ⟨g', cap', cur, h1, _, hg, _⟩
    · simp only [Value.slice.injEq] at h1
      cases h1.1
    · simp only [Value.slice.injEq, Option.some.injEq, Addr.mk.injEq, and_true, true_and] at h1
      rw [h1.1]
      exact frozen_of_row _ _ _ _ _ hg
theorem sortF_one (g cap lo : Nat) (E : List Fd) (w : World) (hE : OwnL w lo 84 7 (some ⟨g, 0, none⟩) cap (E.map Fd.cells)) (hlen : E.length ≤ 1000000) :
    Calls Tryz.prog 49 #[.slice (some ⟨g, 0, none⟩) E.length cap, .func (.func 50) #[] #[]] w fun e w' => e = .returned (.tuple #[]) ∧ ∃ D : List Fd, D.Perm E ∧ D.Pairwise (fun x y => cmp3 x y ≤ 0) ∧ Rows w' 7 (some ⟨g, 0, none⟩) cap (D.map Fd.cells) ∧ (∀ b, b < w.heap.size → b ≠ g → w'.heap[b]? = w.heap[b]?) ∧ Below lo w w' ∧ ∃ cs, w'.heap[g]? = some (.cells cs 84 (0, 0)) := by
  haveI : Inhabited Fd := ⟨⟨0, 0, 0, 0, 0, 0, 0⟩⟩
  have eg : ∀ args w, (callFunc 50 args).run Tryz.prog w = .ok (.enter 50 args) w := enters_of Tryz.func50 (by kernel_rfl) rfl
  have hgl := blk_lt hE g (by simp [blk])
  have hr := own_rows hE fun row hm => by rw [List.mem_map] at hm; obtain ⟨y, _, rfl⟩ := hm; rfl
  have hcon := Tryz.slices_SortFd 7 Tryz.isAgg84 Tryz.sizeOf84 Fd.cells (fun _ => rfl) oneFd cmp3 cmp3_swo 50 #[] g 0 cap E.toArray w eg (cmp3_lays g 0 _ w) (own_holdsF hE) hgl.2 (by simp; omega)
  change Calls Tryz.prog 49 _ _ _ at hcon
  simp only [List.size_toArray] at hcon
  refine hcon.mono ?_
  rintro e w' ⟨rfl, d', n, os, hp, hs, rfl⟩
  obtain ⟨h1, h2, h3⟩ := hp
  have hsz : d'.toList.length = E.length := by rw [Array.length_toList, h1]; simp
  have hk : Go.Sort.HoldsK Fd.cells 7 (Go.Sort.grow (Go.Sort.putRowK Fd.cells 7 (Go.Sort.ahead w n) g 0 d') os) g 0 d' := Go.Sort.holdsK_grow Fd.cells 7 _ os g 0 d' (by show g < (Go.Sort.putRow id (Go.Sort.ahead w n) g 0 _).heap.size; rw [Go.Sort.size_putRow]; exact hgl.2) (Go.Sort.holdsK_putRowK Fd.cells 7 (Go.Sort.ahead w n) g 0 E.toArray d' (own_holdsF hE) h1)
  have hblk : ∀ b, b < w.heap.size → b ≠ g → (Go.Sort.grow (Go.Sort.putRowK Fd.cells 7 (Go.Sort.ahead w n) g 0 d') os).heap[b]? = w.heap[b]? := fun b q1 q2 => by
    simp only [Go.Sort.grow, Go.Sort.putRowK, Go.Sort.putRow, Go.Sort.mapBlock, Go.Sort.ahead]
    rw [Array.getElem?_append_left (by simp; exact q1), Array.getElem?_modify, if_neg (Ne.symm q2)]
  have hg0 : ∃ cs, w.heap[g]? = some (.cells cs 84 (0, 0)) := by
    rcases hE.2 with ⟨q, _⟩ | ⟨g', cap', cur, q, _, hg, _⟩
    · simp only [Value.slice.injEq] at q
      cases q.1
    · simp only [Value.slice.injEq, Option.some.injEq, Addr.mk.injEq, and_true, true_and] at q
      rw [q.1]
      exact ⟨cur, hg⟩
  have hcs : ∃ cs, (Go.Sort.grow (Go.Sort.putRowK Fd.cells 7 (Go.Sort.ahead w n) g 0 d') os).heap[g]? = some (.cells cs 84 (0, 0)) := by
    obtain ⟨cs, hcs⟩ := hg0
    simp only [Go.Sort.grow, Go.Sort.putRowK, Go.Sort.putRow, Go.Sort.mapBlock, Go.Sort.ahead]
    rw [Array.getElem?_append_left (by simp; exact hgl.2), Array.getElem?_modify, if_pos rfl, hcs]
    exact ⟨_, rfl⟩
  refine ⟨rfl, d'.toList, ?_, ?_, ?_, hblk, ?_, hcs⟩
  · have e1 : d'.extract 0 E.length = d' := by rw [show E.length = d'.size by rw [h1]; simp]; simp
    have e2 : E.toArray.extract 0 E.length = E.toArray := by simp
    rw [e1, e2] at h3
    simpa using h3
  · rw [List.pairwise_iff_getElem]
    intro i j hi hj hij
    have q := hs i j (Nat.zero_le _) hij (by omega)
    have e1 : d'[i]! = d'.toList[i] := by rw [getElem!_pos d' i (by simpa using hi)]; rfl
    have e2 : d'[j]! = d'.toList[j] := by rw [getElem!_pos d' j (by simpa using hj)]; rfl
    rw [e1, e2] at q
    have q2 : ¬ cmp3 d'.toList[j] d'.toList[i] < 0 := by simpa [Go.Proofs.ltOf] using q
    have q3 := good3.turn d'.toList[i] d'.toList[j]
    omega
  · refine ⟨by rw [List.length_map, hsz]; have := hr.1; rwa [List.length_map] at this, hr.2.1, by simp, .inr ⟨g, 0, rfl, ?_, fun i row hi => ?_⟩⟩
    · show g < (Go.Sort.grow _ os).heap.size
      simp only [Go.Sort.grow, Array.size_append, Go.Sort.putRowK, Go.Sort.size_putRow]
      have := hgl.2
      show g < w.heap.size + os.size
      omega
    · rw [List.getElem?_map, Option.map_eq_some_iff] at hi
      obtain ⟨x, hx, rfl⟩ := hi
      have hil : i < d'.size := by have := (List.getElem?_eq_some_iff.mp hx).1; simpa using this
      have hxe : d'[i]! = x := by
        rw [getElem!_pos d' i hil]
        have := (List.getElem?_eq_some_iff.mp hx).2
        simpa using this
      refine ⟨rfl, fun j u hj => ?_⟩
      have hj2 : j < 7 := (List.getElem?_eq_some_iff.mp hj).1
      have := (hk.cell hil hj2).1
      rw [hxe] at this
      rw [show 0 + (i * 7 + j) = 0 + i * 7 + j by omega]
      refine Eq.trans this ?_
      have q := (List.getElem?_eq_some_iff.mp hj)
      have h3 : (Fd.cells x)[j]! = (Fd.cells x)[j]'q.1 := getElem!_pos (Fd.cells x) j q.1
      rw [h3, q.2]
  · refine ⟨rfl, rfl, rfl, ?_, fun b hb => hblk b (by have := hgl.1; have := hgl.2; omega) (by have := hgl.1; omega)⟩
    simp only [sortWorldK, Go.Sort.grow, Array.size_append, Go.Sort.putRowK, Go.Sort.size_putRow]
    show w.heap.size ≤ w.heap.size + os.size
    omega
set_option maxHeartbeats 1000000 in
theorem insF_nil (w : World) : Calls Tryz.prog 128 #[.slice none 0 0, .int .i64 0, .int .i64 0, .func (.func 50) #[] #[]] w fun e w' => (∃ v, e = .returned v) ∧ w' = w := by
  go_enter Tryz.func128, Tryz.ntmps128
  go_wp2
  go_loopw [8] (fun u wr => u = .int .i64 1 ∧ wr = w) (fun _ _ => 0)
  case atStart => exact ⟨rfl, rfl⟩
  case round =>
    obtain ⟨rfl, rfl⟩ := hrel
    go_wp2
    go_end0
    exact ⟨⟨_, rfl⟩, rfl⟩
set_option maxHeartbeats 1000000 in
theorem pdqF_nil (n : Int) (w : World) : Calls Tryz.prog 98 #[.slice none 0 0, .int .i64 0, .int .i64 0, .int .i64 n, .func (.func 50) #[] #[]] w fun e w' => (∃ v, e = .returned v) ∧ w' = w := by
  have c1 := insF_nil w
  go_enter Tryz.func98, Tryz.ntmps98
  go_wp2_with fail
  refine wp_loop_once ?_
  go_wp2_with (go_at_call 128; (with_reducible refine c1.mono ?_); rintro e w' ⟨⟨v, rfl⟩, rfl⟩)
  exact bodyPost_ret (results_none rfl _ _ _) rfl ⟨⟨_, rfl⟩, rfl⟩
theorem len0F (w : World) : Calls Tryz.prog 99 #[.int .u64 0] w fun e w' => (∃ n, e = .returned (.int .i64 n)) ∧ w' = w := by
  have h := Tryz.bits_Len 0 w (by omega) (by omega)
  exact h.mono fun e w' ⟨he, hw⟩ => ⟨⟨_, he⟩, hw⟩
set_option maxHeartbeats 1000000 in
theorem sortF_nil (w : World) : Calls Tryz.prog 49 #[.slice none 0 0, .func (.func 50) #[] #[]] w fun e w' => (∃ v, e = .returned v) ∧ w' = w := by
  have c1 := len0F w
  have c2 := fun n => pdqF_nil n w
  go_enter Tryz.func49, Tryz.ntmps49
  go_wp2_with (first | (go_at_call 99; (with_reducible refine c1.mono ?_); rintro e w' ⟨⟨v, rfl⟩, rfl⟩) | (go_at_call 98; (with_reducible refine (c2 _).mono ?_); rintro e w' ⟨⟨v2, rfl⟩, rfl⟩))
  go_end0
  exact ⟨⟨_, rfl⟩, rfl⟩
theorem own_nil_isF {w : World} {lo e k cap : Nat} {L : List (List Value)} (h : OwnL w lo e k none cap L) : L = [] ∧ cap = 0 := by
  rcases own_block h with ⟨_, h1, h2⟩ | ⟨g, h1, _⟩
  · exact ⟨List.length_eq_zero_iff.mp h1, h2⟩
  · cases h1
theorem sortF_any (da : Option Addr) (cap lo : Nat) (E : List Fd) (w : World) (hE : OwnL w lo 84 7 da cap (E.map Fd.cells)) (hlen : E.length ≤ 1000000) :
    Calls Tryz.prog 49 #[.slice da E.length cap, .func (.func 50) #[] #[]] w fun e w' => (∃ v, e = .returned v) ∧ ∃ D : List Fd, D.Perm E ∧ D.Pairwise (fun x y => cmp3 x y ≤ 0) ∧ Rows w' 7 da cap (D.map Fd.cells) ∧ (∀ b, b < w.heap.size → b ∉ blk da → w'.heap[b]? = w.heap[b]?) ∧ Below lo w w' ∧ ∀ g ∈ blk da, ∃ cs, w'.heap[g]? = some (.cells cs 84 (0, 0)) := by
  cases da with
  | none =>
    obtain ⟨h1, rfl⟩ := own_nil_isF hE
    have hE0 : E = [] := by simpa using h1
    subst hE0
    exact (sortF_nil w).mono fun e w' ⟨hv, hw⟩ => ⟨hv, [], .refl _, .nil, by rw [hw]; exact ⟨by simp, by omega, fun _ => ⟨rfl, rfl⟩, .inl rfl⟩, fun b _ _ => by rw [hw], by rw [hw]; exact Below.refl _ _, fun g' hg' => by simp [blk] at hg'⟩
  | some ad =>
    rcases own_block hE with ⟨h1, _⟩ | ⟨g, h1, h2, h3⟩
    · cases h1
    · cases h1
      exact (sortF_one g cap lo E w hE hlen).mono fun e w' ⟨he, D, q1, q2, q3, q4, q5, q6⟩ => ⟨⟨_, he⟩, D, q1, q2, q3, fun b b1 b2 => q4 b b1 fun q => b2 (by simp [blk, q]), q5, fun g' hg' => by simp [blk] at hg'; subst hg'; exact q6⟩
end Go.Proofs.YtafefnkgdnmjbaaGreatDoor.pg
/- slices.Compact of what is found. -/
namespace Go.Proofs.YtafefnkgdnmjbaaGreatDoor.pg
open Go.ChangeShapes Go.WideShapes Go.ChangeAt Go.RowKit Go.Shelf
set_option linter.unusedVariables false
set_option linter.unusedSimpArgs false
set_option maxRecDepth 100000
attribute [local go_sem ↓] Go.wp_at_zero Go.wp_at_succ
/-- One more, unless it is the last one. -/
def cstep (c : List Fd) (y : Fd) : List Fd := if c.getLast? = some y then c else c ++ [y]
/-- What stands side by side once. -/
def cpt (l : List Fd) : List Fd := l.foldl cstep []
theorem cpt_snoc (l : List Fd) (y : Fd) : cpt (l ++ [y]) = cstep (cpt l) y := by unfold cpt; rw [List.foldl_append]; rfl
theorem cpt_last (l : List Fd) (y : Fd) : (cpt (l ++ [y])).getLast? = some y := by
  rw [cpt_snoc]
  unfold cstep
  split
  · assumption
  · simp
theorem take_snoc {l : List Fd} {k : Nat} {y : Fd} (h : l[k]? = some y) : l.take (k + 1) = l.take k ++ [y] := by rw [List.take_add_one, h]; rfl
theorem cpt_more {l : List Fd} {k : Nat} {x y : Fd} (hx : l[k]? = some x) (hy : l[k + 1]? = some y) : cpt (l.take (k + 2)) = cpt (l.take (k + 1)) ++ (if y = x then [] else [y]) := by
  rw [take_snoc hy, cpt_snoc, take_snoc hx]
  unfold cstep
  rw [cpt_last]
  by_cases e : y = x
  · subst e; simp
  · rw [if_neg (by intro q; exact e (Option.some.inj q).symm), if_neg e]
theorem cpt_one {l : List Fd} {x : Fd} (h : l[0]? = some x) : cpt (l.take 1) = l.take 1 := by rw [take_snoc (k := 0) h]; rfl
theorem cpt_le (l : List Fd) : ∀ k, (cpt (l.take k)).length ≤ k
  | 0 => by simp [cpt]
  | k + 1 => by
    by_cases h : k < l.length
    · rw [take_snoc (List.getElem?_eq_getElem h), cpt_snoc]
      have := cpt_le l k
      unfold cstep
      split
      · omega
      · simp; omega
    · rw [List.take_of_length_le (by omega), ← List.take_of_length_le (l := l) (i := k) (by omega)]
      have := cpt_le l k
      omega
/-- Things found in a block of the call's own. -/
structure FuS (w W : World) (lo g cap : Nat) (u : List Fd) : Prop where
  r : Rows W 7 (some ⟨g, 0, none⟩) cap (u.map Fd.cells)
  c : ∃ cs, W.heap[g]? = some (.cells cs 84 (0, 0))
  b : Below lo w W
  l : lo ≤ g
  k : ∀ b, b < w.heap.size → b ≠ g → W.heap[b]? = w.heap[b]?
theorem FuS.drew {w W : World} {lo g cap : Nat} {u : List Fd} (h : FuS w W lo g cap u) : FuS w W.drew lo g cap u := ⟨h.r.later (bey_drew W), h.c, h.b.drew, h.l, h.k⟩
theorem FuS.range {w W : World} {lo g cap : Nat} {u : List Fd} (h : FuS w W lo g cap u) {i : Nat} {x : Fd} (hi : u[i]? = some x) : W.rangeAt g (i * 7) x.cells := by
  obtain ⟨h1, h2, h3, h4⟩ := h.r
  have hil := (List.getElem?_eq_some_iff.mp hi).1
  rcases h4 with h4 | ⟨b, off, ha, hlt, hcc⟩
  · rw [List.map_eq_nil_iff] at h4; subst h4; simp at hil
  · simp only [Option.some.injEq, Addr.mk.injEq, and_true] at ha
    obtain ⟨rfl, rfl⟩ := ha
    intro j v hj
    have := (hcc i x.cells (by rw [List.getElem?_map, hi]; rfl)).2 j v hj
    rwa [Nat.zero_add] at this
theorem FuS.there {w W : World} {lo g cap : Nat} {u : List Fd} (h : FuS w W lo g cap u) {i : Nat} (hi : i < u.length) : W.there g (i * 7) 7 := by
  obtain ⟨cs, hc⟩ := h.c
  have hr := h.range (List.getElem?_eq_getElem hi)
  intro j hj
  have : j < (Fd.cells u[i]).length := hj
  exact ⟨by rw [hr j _ (List.getElem?_eq_getElem this)]; rfl, frozen_of_row _ _ _ _ _ hc⟩
theorem FuS.put {w W : World} {lo g cap : Nat} {u : List Fd} (h : FuS w W lo g cap u) {i : Nat} (hi : i < u.length) (x : Fd) : FuS w (W.setCells g (i * 7) x.cells) lo g cap (u.set i x) := by
  obtain ⟨cs, hc⟩ := h.c
  obtain ⟨cs', h1, h2⟩ := cells_keepW x.cells (i * 7) W cs hc
  refine ⟨?_, ⟨cs', h1⟩, below_setCells h.l _ _ _ _ h.b, h.l, fun b q1 q2 => (set_other _ _ _ _ _ q2).trans (h.k b q1 q2)⟩
  have := rows_put h.r (i := i) (by rw [List.length_map]; exact hi) (row := x.cells) rfl (h.there hi)
  rw [← List.map_set] at this
  exact this
/-- Behind the first k all may be anything. -/
theorem FuS.cut {w W : World} {lo g cap : Nat} {u : List Fd} (h : FuS w W lo g cap u) {k : Nat} (hk : k ≤ u.length) (vs : List Value) : FuS w (W.setCells g (k * 7) vs) lo g cap (u.take k) := by
  obtain ⟨cs, hc⟩ := h.c
  obtain ⟨cs', h1, h2⟩ := cells_keepW vs (k * 7) W cs hc
  refine ⟨?_, ⟨cs', h1⟩, below_setCells h.l _ _ _ _ h.b, h.l, fun b q1 q2 => (set_other _ _ _ _ _ q2).trans (h.k b q1 q2)⟩
  obtain ⟨r1, r2, r3, r4⟩ := h.r
  have hgl : g < W.heap.size := (Array.getElem?_eq_some_iff.mp hc).1
  refine ⟨by rw [List.length_map] at *; rw [List.length_take]; omega, r2, by simp, .inr ⟨g, 0, rfl, by rw [size_setCells]; exact hgl, fun i row hi => ?_⟩⟩
  rw [List.getElem?_map, List.getElem?_take] at hi
  by_cases hik : i < k
  · rw [if_pos hik] at hi
    obtain ⟨x, hx, rfl⟩ := Option.map_eq_some_iff.mp hi
    refine ⟨rfl, fun j v hj => ?_⟩
    have hj7 : j < 7 := (List.getElem?_eq_some_iff.mp hj).1
    rw [World.cell?_setCells_out g vs (k * 7) W]
    · rw [Nat.zero_add]; exact h.range hx j v hj
    · intro _ _
      show 0 + (i * 7 + j) < k * 7 ∨ _
      omega
  · rw [if_neg hik] at hi; cases hi
theorem ix_off (g o n cap i : Nat) (h : i < n) : ∀ wx, (Instr.indexAt 38 (.slice (some ⟨g, o, none⟩) n cap) (.int .i64 (i : Int))).run Tryz.prog wx = .ok (.pointer (some ⟨g, o + i * 7, none⟩)) wx := by
  intro wx
  have u := Tryz.underlying38
  have z := Tryz.sizeOf84
  have q1 : (i : Int) < n := by omega
  have q2 : ¬ (i : Int) < 0 := by omega
  simp [Instr.indexAt, run_underlying u, asIntOf, go_sem, z, q1, q2, h]
theorem sub_from (g n cap k : Nat) (h : k < n) (hc : n ≤ cap) : ∀ wx, (Instr.sliceAt 38 (.slice (some ⟨g, 0, none⟩) n cap) (some (.int .i64 (k : Int))) none none).run Tryz.prog wx = .ok (.slice (some ⟨g, k * 7, none⟩) (n - k) (cap - k)) wx := by
  intro wx
  have u := Tryz.underlying38
  have z := Tryz.sizeOf84
  have q1 : (k : Int) ≤ n := by omega
  have q2 : ¬ (k : Int) < 0 := by omega
  have q3 : ¬ (n : Int) < k := by omega
  have q4 : ¬ cap - k = 0 := by omega
  have q5 : ¬ cap = k := by omega
  have q6 : ¬ cap ≤ k := by omega
  have q7 : k ≤ n := by omega
  have q8 : n ≤ cap := hc
  simp [Instr.sliceAt, run_underlying u, asIntOf, go_sem, z, q1, q2, q3, q4, q5, q6, q7, q8]
theorem sub_to (g n cap k : Nat) (h : k ≤ n) (hc : n ≤ cap) : ∀ wx, (Instr.sliceAt 38 (.slice (some ⟨g, 0, none⟩) n cap) none (some (.int .i64 (k : Int))) none).run Tryz.prog wx = .ok (.slice (some ⟨g, 0, none⟩) k cap) wx := by
  intro wx
  have u := Tryz.underlying38
  have z := Tryz.sizeOf84
  have q1 : (k : Int) ≤ cap := by omega
  have q2 : ¬ (k : Int) < 0 := by omega
  have q3 : ¬ (cap : Int) < k := by omega
  have q4 : k ≤ cap := by omega
  simp [Instr.sliceAt, run_underlying u, asIntOf, go_sem, z, q1, q2, q3, q4]
/-- clear of some rows. -/
theorem wpList_clr {ops : Array Oper} {rest : List Oper} {o : Oper} {a : Act} {w : World} {Q : Exit → Act → World → Prop} (hgd : o.guard = none) (x : Operand) (ho : o.op = .call { callee := .builtin .clear, args := #[x], argTypes := #[38] })
    (b off n c : Nat) (hn : 0 < n) (hx : a.eval x = .slice (some ⟨b, off, none⟩) n c) (ht : w.there b off (n * 7))
    (h : ∀ vs, wpList Tryz.prog ops Q rest (a.put o.dst (.tuple #[])) (w.setCells b off vs)) : wpList Tryz.prog ops Q (o :: rest) a w := by
  have hzv : ∀ w, (zeroValue 84).run Tryz.prog w = .ok (.agg #[.int .i64 0, .int .i64 0, .int .i64 0, .int .i64 0, .int .i64 0, .int .i64 0, .int .i64 0]) w := fun w => by kernel_rfl
  obtain ⟨vs, hvs⟩ : ∃ vs, vs = (Builtin.zeroCells (Value.agg #[.int .i64 0, .int .i64 0, .int .i64 0, .int .i64 0, .int .i64 0, .int .i64 0, .int .i64 0]).cells n).toList := ⟨_, rfl⟩
  have hlen : vs.length = n * 7 := by rw [hvs]; simp [Builtin.zeroCells, Value.cells]
  have hone : ∀ v ∈ vs, v.oneCell' = true := by
    intro v hv
    rw [hvs] at hv
    simp only [Builtin.zeroCells, Array.toList_map, List.mem_map] at hv
    obtain ⟨i, _, rfl⟩ := hv
    have h7 : i % (Value.agg #[.int .i64 0, .int .i64 0, .int .i64 0, .int .i64 0, .int .i64 0, .int .i64 0, .int .i64 0]).cells.size < 7 := Nat.mod_lt _ (by decide)
    generalize i % (Value.agg #[.int .i64 0, .int .i64 0, .int .i64 0, .int .i64 0, .int .i64 0, .int .i64 0, .int .i64 0]).cells.size = q at *
    match q, h7 with
    | 0, _ => rfl
    | 1, _ => rfl
    | 2, _ => rfl
    | 3, _ => rfl
    | 4, _ => rfl
    | 5, _ => rfl
    | 6, _ => rfl
  have hst := run_storeCells_cells (P := Tryz.prog) b off vs 0 w (fun j hj => by rw [Nat.add_zero]; exact (ht j (by omega)).1) (fun j hj => by rw [Nat.add_zero]; exact (ht j (by omega)).2) hone
  simp only [Nat.add_zero] at hst
  obtain ⟨m, rfl⟩ : ∃ m, n = m + 1 := ⟨n - 1, by omega⟩
  refine wpList_plain hgd fun K hK => ?_
  have hrun : (execOp a.eval o).run Tryz.prog w = .ok (.value (.tuple #[])) (w.setCells b off vs) := by
    have u := Tryz.underlying38
    have hclr : ∀ ty, (Builtin.clear_ #[38] ty #[.slice (some ⟨b, off, none⟩) (m + 1) c]).run Tryz.prog w = .ok (.tuple #[]) (w.setCells b off vs) := fun ty => by
      simp [Builtin.clear_, run_underlying u, hzv, ← hvs, hst]
    simp [execOp, ho, resolve, invoke, hx, builtin, hclr]
  unfold Oper.wp
  rw [hrun]
  exact hK _ _ (h vs)
end Go.Proofs.YtafefnkgdnmjbaaGreatDoor.pg
