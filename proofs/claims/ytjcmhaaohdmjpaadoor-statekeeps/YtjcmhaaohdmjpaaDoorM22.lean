/- Is a state one of a program: package state's Valid. -/
import Derived.Test.YtjcmhaaohdmjpaaDoorM21
namespace Go.Proofs.YtjcmhaaohdmjpaaDoor.pg
open Go.ChangeShapes Go.WideShapes Go.ChangeAt Go.RowKit
set_option linter.unusedVariables false
set_option linter.unusedSimpArgs false
set_option maxRecDepth 100000
theorem own_iff {l : List Int} {p : Int → Prop} {k : Nat} {x : Int} (h : ∀ y ∈ l.take k, p y) (hk : l[k]? = some x) (hx : p x) : ∀ y ∈ l.take (k + 1), p y := all_take_more h hk hx
set_option maxHeartbeats 4000000 in
theorem valid_any (M : MPr) (s : Sts) (hs : s.wf) (w : World) (hM : M.lies w) (hF : prog.Forms w) (R : Bool) (hR : Hid (R = true ↔ validS M.pr s)) :
    Calls Tryd.prog 16 #[M.val, s.val] w fun e w' => e = .returned (.bool R) ∧ Below w.heap.size w w' := by
  obtain ⟨a, b, c, hc⟩ : ∃ a b c, Hid (chk insP M.pr = (a, b, c)) := ⟨_, _, _, rfl⟩
  have hE := ps_new w M s
  have hEH : Hid (PS w ((w.alloc (objP M)).alloc (objSt s)) M s) := hE
  have hcall := check_any M _ (hM.later hE.b) (hF.later hE.b) a b c hc
  have hMH : Hid (M.lies w) := hM
  have hFH : Hid (prog.Forms w) := hF
  have hsH : Hid s.wf := hs
  have hinS : Hid ((Tryd.prog.info? 38).map (·.size) = some s.cells.toArray.size) := infoS hs
  have huS : Hid (Tryd.prog.underlying 38 = _) := Tryd.underlying38
  have hug : Hid (Tryd.prog.underlying 35 = _) := Tryd.underlying35
  have huc : Hid (Tryd.prog.underlying 32 = _) := Tryd.underlying32
  have huO : Hid (Tryd.prog.underlying 29 = _) := Tryd.underlying29
  have hinO : Hid ((Tryd.prog.info? 29).map (·.size) = some (ints s.own).length) := by show _ = _; rw [List.length_map, hs.lo]; kernel_rfl
  have hgol := hs.lg
  have hownl := hs.lo
  have hchl := hs.lc
  have hpl := rows_len hM.2.1
  clear hM hF hs hE
  go_enter Tryd.func16, Tryd.ntmps16
  go_upto_region 1 with fail
  generalize (w.alloc (objP M)).alloc (objSt s) = W at *
  obtain ⟨p0, p1, p2, p3⟩ := hEH.out.p
  by_cases ca : a = 0
  · subst ca
    have hok : (chk insP M.pr).1 = 0 := by rw [hc.out]
    have hz := sizes_ok (chk_sizes0 hok)
    have hzH : Hid _ := hz
    have cF : ∀ V, Below W.heap.size W V → ∀ (Q : Bool), Hid (Q = true ↔ fitsS M.pr s) → Calls Tryd.prog 25 #[M.val, s.val] V fun e w' => e = .returned (.bool Q) ∧ Below V.heap.size V w' := fun V _ Q hQ => fits_any M s hsH.out hzH.out.1 hzH.out.2.1.1 hzH.out.2.1.2 hzH.out.2.2.1 V Q hQ
    have hokH : Hid ((chk insP M.pr).1 = 0) := hok
    clear hc hok hz
    go_upto_region 4 with (go_at_call 19; (with_reducible refine hcall.mono ?_); rintro e w2 ⟨rfl, hb2⟩; clear p0 p1 p2 p3; obtain ⟨p0, p1, p2, p3⟩ := hEH.out.p.later hb2)
    clear hcall
    have hV : Hid (PS w (w2.alloc (Obj.cells #[.int .i64 b, .int .i64 c] 63)) M s) := (hEH.out.later hb2).later (boxed _ _)
    have hVW : Below W.heap.size W (w2.alloc (Obj.cells #[.int .i64 b, .int .i64 c] 63)) := bthen hb2 (boxed _ _)
    generalize w2.alloc (Obj.cells #[.int .i64 b, .int .i64 c] 63) = V at *
    clear p0 p1 p2 p3 hb2 hEH
    obtain ⟨p0, p1, p2, p3⟩ := hV.out.p
    have hSV := hV.out.sb
    by_cases hf : fitsS M.pr s
    · have xF := cF V hVW true ⟨fun _ => hf, fun _ => rfl⟩
      have hfH : Hid (fitsS M.pr s) := hf
      have fc1 := hf.c1
      have fc6 := hf.c6
      clear cF hf
      go_upto_region 6 with (first
        | (refine wpList_load_row rfl 38 _ rfl (w.heap.size + 1) rfl _ _ _ _ hSV huS.out rfl hinS.out ?_)
        | (go_at_call 25; (with_reducible refine xF.mono ?_); rintro e w3 ⟨rfl, hb3⟩; clear p0 p1 p2 p3))
      have hU : Hid (PS w w3 M s) := hV.out.later hb3
      clear hb3 xF hV hVW hSV
      have zc := hU.out.sb.cnt hsH.out
      obtain ⟨cn, hcn⟩ : ∃ cn : Nat, (cn : Int) = s.cnt := ⟨s.cnt.toNat, by omega⟩
      have hcn6 : cn ≤ 6 := by omega
      have hcnt : Hid (s.cnt.toNat = cn) := by show _ = _; omega
      have htk := sl_take (t := 36) Tryd.underlying36 (fun wx => Tryd.sizeOf35 wx) (w.heap.size + 1) 48 (by omega) cn hcn6
      rw [hcn] at htk
      clear hcn
      go_wp2_with fail
      clear zc htk
      go_loopw [29] (fun u wr => ∃ k : Nat, k ≤ cn ∧ u = .int .i64 (k : Int) ∧ Hid (PS w wr M s) ∧ Hid (∀ i, i < k → stands M.pr (s.gos.getD i zeroG))) (fun u _ => cn - (intOf u).toNat)
      case atStart => exact ⟨0, by omega, rfl, hU, fun n hn => by omega⟩
      case round =>
        clear hU
        obtain ⟨k, hk, rfl, ho, hd⟩ := hrel
        by_cases hlt : k < cn
        · obtain ⟨g, hg, hgm⟩ := get_lt s.gos k (by omega)
          have eg := go_getD hg
          have hgw := hsH.out.ag g hgm
          have hrows := (ho.out.sb.gos hsH.out).tak cn
          have hleq : (s.gos.take cn).length = cn := by rw [List.length_take]; omega
          obtain ⟨gb, go, hix, hgb, hgr⟩ := ixGo (l := s.gos.take cn) (by rw [List.map_take]; exact hrows) k g (by rw [List.getElem?_take, if_pos hlt]; exact hg)
          rw [hleq] at hix
          have hkI : (k : Int) < (cn : Int) := by omega
          have hrg : Hid (wr.rangeAt gb go g.cells) := hgr
          have hinf : Hid ((Tryd.prog.info? 35).map (·.size) = some g.cells.length) := by have := infoGw hgw; rwa [List.size_toArray] at this
          have hinfA : Hid ((Tryd.prog.info? 35).map (·.size) = some g.cells.toArray.size) := infoGw hgw
          have hone := oneG g
          obtain ⟨ZI, hZ1, hZ2, _⟩ := zero_big (P := Tryd.prog) (t := 35) (n := 12) (by kernel_rfl)
          have hsz : Hid (ZI.size = g.cells.toArray.size) := by show _ = _; rw [hZ2, List.size_toArray, Gr.len hgw]
          have hzi : (wr.alloc (.cells ZI 35)).heap[wr.heap.size]? = some (.cells ZI 35) := heap_alloc_new wr _
          have hbw : Below wr.heap.size wr ((wr.alloc (.cells ZI 35)).setRow wr.heap.size g.cells.toArray) := below_setRowG (boxed _ _) (Nat.le_refl _) _
          have hV : Hid (PS w ((wr.alloc (.cells ZI 35)).setRow wr.heap.size g.cells.toArray) M s) := ho.out.later hbw
          have hGb : InG ((wr.alloc (.cells ZI 35)).setRow wr.heap.size g.cells.toArray) wr.heap.size g := setRow_heap _ _ _ _ _ _ hzi
          clear hbw hZ2 ho hrows hgr hleq
          go_upto_region 9 with (first
            | (refine wpList_load_mid rfl 35 _ rfl gb go rfl g.cells _ hrg.out hug.out rfl hinf.out ?_)
            | (refine wpList_alloc_big rfl 35 rfl hZ1 ?_)
            | (refine wpList_store_row rfl 35 _ _ rfl wr.heap.size g.cells.toArray rfl rfl _ _ hzi hinfA.out hsz.out hone ?_))
          try simp only [Act.put, List.setIfInBounds_toArray, List.set_cons_zero, List.set_cons_succ]
          generalize (wr.alloc (.cells ZI 35)).setRow wr.heap.size g.cells.toArray = V at *
          generalize wr.heap.size = CB at *
          clear hzi hZ1 hsz hone hix hrg hinf hgb
          obtain ⟨p0, p1, p2, p3⟩ := hV.out.p
          have cS : ∀ (Q : Bool), Hid (Q = true ↔ stands M.pr g) → Calls Tryd.prog 26 #[M.val, g.val] V fun e w' => e = .returned (.bool Q) ∧ Below V.heap.size V w' := fun Q hQ => stands_any M g hokH.out hgw V (hMH.out.later hV.out.b) (hFH.out.later hV.out.b) Q hQ
          by_cases sy : stands M.pr g
          · have xS := cS true ⟨fun _ => sy, fun _ => rfl⟩
            have hd2 : Hid (∀ i, i < k + 1 → stands M.pr (s.gos.getD i zeroG)) := fun n hn => by
              by_cases e : n = k
              · subst e; rw [eg]; exact sy
              · exact hd.out n (by omega)
            clear cS sy hd eg hg hgm hgw
            go_wp2_with (first
              | (refine wpList_load_row rfl 35 _ rfl CB rfl _ _ _ _ hGb hug.out rfl hinfA.out ?_)
              | (go_at_call 26; (with_reducible refine xS.mono ?_); rintro e w4 ⟨rfl, hb4⟩; (have hV4 : Hid (PS w w4 M s) := hV.out.later hb4)))
            go_roundw
            case rel => exact ⟨k + 1, by omega, by go_num, hV4, hd2⟩
            case measure => simp [intOf]; omega
          · have xS := cS false ⟨fun q => (by cases q), fun q => absurd q sy⟩
            have e := Rfalse hR fun q => sy (by have := q.g k (by rw [hcnt.out]; exact hlt); rwa [eg] at this)
            subst e
            clear cS sy hd eg hg hgm hgw hR
            go_wp2_with (first
              | (refine wpList_load_row rfl 35 _ rfl CB rfl _ _ _ _ hGb hug.out rfl hinfA.out ?_)
              | (go_at_call 26; (with_reducible refine xS.mono ?_); rintro e w4 ⟨rfl, hb4⟩))
            go_ret
            exact ⟨rfl, bthen hV.out.b hb4⟩
        · have hkc : k = cn := by omega
          subst hkc
          have hcnt' := hcnt
          have hstn : Hid (∀ i, i < s.cnt.toNat → stands M.pr (s.gos.getD i zeroG)) := by show ∀ i, _; rw [hcnt.out]; exact hd.out
          have rO : Hid (wr.rangeAt (w.heap.size + 1) 8 (ints s.own)) := ho.out.sb.rangeO hsH.out
          have hkI : ¬ ((k : Int) < (k : Int)) := by omega
          clear hlt hk hd
          go_wp2_with (refine wpList_load_mid rfl 29 _ rfl (w.heap.size + 1) 8 rfl _ _ rO.out huO.out rfl hinO.out ?_)
          try simp only [Act.put, List.setIfInBounds_toArray, List.set_cons_zero, List.set_cons_succ]
          clear rO hkI
          have hzc := ho.out.sb.cnt hsH.out
          generalize hWW : wr = W4 at *
          clear hWW
          go_loopw [40] (fun u wr => ∃ k : Nat, k ≤ 4 ∧ u = .int .i64 (k : Int) ∧ wr = W4 ∧ Hid (∀ x ∈ s.own.take k, 0 ≤ x ∧ x ≤ s.cnt)) (fun u _ => 4 - (intOf u).toNat)
          case atStart => exact ⟨0, by omega, rfl, rfl, fun x hx => by simp at hx⟩
          case round =>
            obtain ⟨k, hk, rfl, rfl, hd⟩ := hrel
            by_cases hlt : k < 4
            · obtain ⟨x, hx, hxm⟩ := get_lt s.own k (by omega)
              have hix := ixv_own hsH.out k x hx
              have hkI : (k : Int) < 4 := by omega
              by_cases x0 : x < 0
              · have e := Rfalse hR fun q => by have := (q.o x hxm).1; omega
                subst e
                clear hR hd hx hxm
                go_wp2
                go_ret
                exact ⟨rfl, ho.out.b⟩
              by_cases x1 : s.cnt < x
              · have e := Rfalse hR fun q => by have := (q.o x hxm).2; omega
                subst e
                have d0 : ¬ x < 0 := x0
                clear hR hd hx hxm
                go_wp2
                go_ret
                exact ⟨rfl, ho.out.b⟩
              · have hd2 : Hid (∀ y ∈ s.own.take (k + 1), 0 ≤ y ∧ y ≤ s.cnt) := all_take_more hd.out hx ⟨by omega, by omega⟩
                have d0 : decide (x < 0) = false := decide_eq_false x0
                have d1 : decide (s.cnt < x) = false := decide_eq_false x1
                clear hd hx hxm x0 x1
                go_wp2
                go_roundw
                case rel => exact ⟨k + 1, by omega, by go_num, trivial, hd2⟩
                case measure => simp [intOf]; omega
            · have hk4 : k = 4 := by omega
              subst hk4
              rw [show (((4 : Nat) : Int)) = 4 from rfl]
              have hown : Hid (∀ x ∈ s.own, 0 ≤ x ∧ x ≤ s.cnt) := fun x hx => hd.out x (by rw [List.take_of_length_le (by omega)]; exact hx)
              obtain ⟨p0, p1, p2, p3⟩ := ho.out.p
              clear hlt hk hd hzc
              go_wp2_with fail
              clear p0 p1 p2 p3
              go_loopw [55] (fun u wr => ∃ k : Nat, k ≤ M.chans.length ∧ u = .int .i64 (k : Int) ∧ Hid (PS w wr M s) ∧ Hid (∀ n, n < k → holdsC (chAt s n) (M.chans.getD n 0))) (fun u _ => M.chans.length - (intOf u).toNat)
              case atStart => exact ⟨0, by omega, rfl, ho, fun n hn => by omega⟩
              case round =>
                clear ho
                obtain ⟨k, hk, rfl, ho, hd⟩ := hrel
                by_cases hlt : k < M.chans.length
                · obtain ⟨room, hrm, hrmm⟩ := get_lt M.chans k hlt
                  have hroom : M.chans.getD k 0 = room := by rw [List.getD_eq_getElem?_getD, hrm]; rfl
                  have hr4 : room ≤ 4 := by have := (rooms hokH.out k).2; rw [show M.pr.chans.getD k 0 = room from hroom] at this; exact this
                  obtain ⟨rb, ro, hrix, hrb, hrc⟩ := ch_ix (hMH.out.later ho.out.b).2.1 k room hrm
                  obtain ⟨ch, hch, hchm⟩ := get_lt s.ch k (by have := hzH.out.2.2.1; have h2 : M.pr.chans.length = M.chans.length := rfl; omega)
                  have ech := ch_getD hch
                  have hcw := hsH.out.ac ch hchm
                  have hpx := ixp (t := 33) Tryd.underlying33 (fun wx => Tryd.sizeOf32 wx) (w.heap.size + 1) 12 (k : Int) (by omega) (by have := (List.getElem?_eq_some_iff.mp hch).1; omega)
                  rw [Int.toNat_natCast] at hpx
                  have hcr := ((ho.out.sb.chs hsH.out).row (i := k) (row := ch.cells) (by rw [List.getElem?_map, hch]; rfl))
                  have hcR : Hid (wr.rangeAt (w.heap.size + 1) (12 + k * 9) ch.cells) := by
                    obtain ⟨b, off, ha, _, hc⟩ := hcr
                    simp only [Option.some.injEq, Addr.mk.injEq, and_true] at ha
                    obtain ⟨rfl, rfl⟩ := ha
                    intro j u hj
                    rw [Nat.add_assoc]
                    exact hc j u hj
                  have hinf : Hid ((Tryd.prog.info? 32).map (·.size) = some ch.cells.length) := by have := infoC hcw; rwa [List.size_toArray] at this
                  have hkI : (k : Int) < (M.chans.length : Int) := by omega
                  have cH : ∀ (Q : Bool), Hid (Q = true ↔ holdsC ch room) → Calls Tryd.prog 27 #[ch.vl, .int .i64 room] wr fun e w' => e = .returned (.bool Q) ∧ Below wr.heap.size wr w' := fun Q hQ => holds_any ch room hcw hr4 wr Q hQ
                  by_cases sy : holdsC ch room
                  · have xH := cH true ⟨fun _ => sy, fun _ => rfl⟩
                    have hd2 : Hid (∀ n, n < k + 1 → holdsC (chAt s n) (M.chans.getD n 0)) := fun n hn => by
                      by_cases e : n = k
                      · subst e; rw [ech, hroom]; exact sy
                      · exact hd.out n (by omega)
                    clear cH sy hd ech hch hchm hcw hcr hroom hrm hrmm hr4
                    go_wp2_with (first
                      | (refine wpList_load_mid rfl 32 _ rfl (w.heap.size + 1) (12 + k * 9) rfl ch.cells _ hcR.out huc.out rfl hinf.out ?_)
                      | (go_at_call 27; (with_reducible refine xH.mono ?_); rintro e w4 ⟨rfl, hb4⟩; (have hV4 : Hid (PS w w4 M s) := ho.out.later hb4)))
                    go_roundw
                    case rel => exact ⟨k + 1, by omega, by go_num, hV4, hd2⟩
                    case measure => simp [intOf]; omega
                  · have xH := cH false ⟨fun q => (by cases q), fun q => absurd q sy⟩
                    have e := Rfalse hR fun q => sy (by have := q.h k hlt; rw [ech] at this; rw [show M.pr.chans.getD k 0 = room from hroom] at this; exact this)
                    subst e
                    clear cH sy hd ech hch hchm hcw hcr hroom hrm hrmm hr4 hR
                    go_wp2_with (first
                      | (refine wpList_load_mid rfl 32 _ rfl (w.heap.size + 1) (12 + k * 9) rfl ch.cells _ hcR.out huc.out rfl hinf.out ?_)
                      | (go_at_call 27; (with_reducible refine xH.mono ?_); rintro e w4 ⟨rfl, hb4⟩))
                    go_ret
                    exact ⟨rfl, bthen ho.out.b hb4⟩
                · have hkc : k = M.chans.length := by omega
                  subst hkc
                  have xO := offered_any M s hsH.out fc1 fc6 hstn.out wr (hMH.out.later ho.out.b) R (by
                    show _ ↔ _
                    rw [hR.out]
                    exact ⟨fun q => q.w, fun q => ⟨hokH.out, hfH.out, hstn.out, hown.out, hd.out, q⟩⟩)
                  have hkI : ¬ ((M.chans.length : Int) < (M.chans.length : Int)) := by omega
                  obtain ⟨p0, p1, p2, p3⟩ := ho.out.p
                  have hSV := ho.out.sb
                  clear hR hd hlt hk
                  go_wp2_with (first
                    | (refine wpList_load_row rfl 38 _ rfl (w.heap.size + 1) rfl _ _ _ _ hSV huS.out rfl hinS.out ?_)
                    | (go_at_call 28; (with_reducible refine xO.mono ?_); rintro e w4 ⟨rfl, hb4⟩))
                  go_ret
                  exact ⟨rfl, bthen ho.out.b hb4⟩
    · have xF := cF V hVW false ⟨fun q => (by cases q), fun q => absurd q hf⟩
      have e := Rfalse hR fun q => hf q.f
      subst e
      clear cF hf hR
      go_wp2_with (first
        | (refine wpList_load_row rfl 38 _ rfl (w.heap.size + 1) rfl _ _ _ _ hSV huS.out rfl hinS.out ?_)
        | (go_at_call 25; (with_reducible refine xF.mono ?_); rintro e w3 ⟨rfl, hb3⟩))
      go_ret
      exact ⟨rfl, bthen hV.out.b hb3⟩
  · have e := Rfalse hR fun q => ca (by have := q.r; rw [hc.out] at this; exact this)
    subst e
    have d : (a != 0) = true := by simpa using ca
    clear hR hc ca
    go_wp2_with (go_at_call 19; (with_reducible refine hcall.mono ?_); rintro e w2 ⟨rfl, hb2⟩)
    go_ret
    exact ⟨rfl, bthen (bthen hEH.out.b hb2) (boxed _ _)⟩
end Go.Proofs.YtjcmhaaohdmjpaaDoor.pg
/- The zero state; states built, stored and returned whole; the fuel. -/
namespace Go.Proofs.YtjcmhaaohdmjpaaDoor.pg
open Go.ChangeShapes Go.WideShapes Go.ChangeAt Go.RowKit
set_option linter.unusedVariables false
set_option linter.unusedSimpArgs false
set_option maxRecDepth 100000
def zeroS : Sts := ⟨zero8, [0, 0, 0, 0], [zeroC, zeroC, zeroC, zeroC], [zeroG, zeroG, zeroG, zeroG, zeroG, zeroG], 0⟩
def firstS : Sts := ⟨zero8, [0, 0, 0, 0], [zeroC, zeroC, zeroC, zeroC], [zeroG, zeroG, zeroG, zeroG, zeroG, zeroG], 1⟩
theorem zeroS_wf : zeroS.wf := by
  refine ⟨rfl, rfl, rfl, rfl, zero8_all, ?_, ?_, ?_, ⟨by decide, by decide⟩⟩
  · intro x hx
    have : x = 0 := by simpa [zeroS] using hx
    rw [this]; exact ⟨by decide, by decide⟩
  · intro c hc
    have : c = zeroC := by simpa [zeroS] using hc
    rw [this]; exact zeroC_wf
  · intro c hc
    have : c = zeroG := by simpa [zeroS] using hc
    rw [this]; exact zeroG_wf
theorem firstS_wf : firstS.wf := ⟨rfl, rfl, rfl, rfl, zero8_all, zeroS_wf.ao, zeroS_wf.ac, zeroS_wf.ag, ⟨by decide, by decide⟩⟩
theorem zv_S (w : World) : (zeroValue 38).run Tryd.prog w = .ok (.agg zeroS.cells.toArray) w := by kernel_rfl
theorem bld_S0 (w : World) : (Instr.build 38 #[]).run Tryd.prog w = .ok zeroS.val w := by kernel_rfl
theorem bld_S1 (w : World) : (Instr.build 38 #[(4, .int .i64 1)]).run Tryd.prog w = .ok firstS.val w := by kernel_rfl
theorem bld_G0 (w : World) : (Instr.build 35 #[]).run Tryd.prog w = .ok zeroG.val w := by kernel_rfl
theorem bld_G1 (w : World) : (Instr.build 35 #[(0, .int .i64 1)]).run Tryd.prog w = .ok freshG.val w := by kernel_rfl
theorem wpList_bld {P : Program} {ops : Array Oper} {rest : List Oper} {o : Oper} {a : Act} {w : World} {Q : Exit → Act → World → Prop} (hgd : o.guard = none) (t : TypeId) (parts : Array (Nat × Operand)) (ho : o.op = .build t parts) (vs : Array (Nat × Value)) (hp : (parts.map fun (i, x) => (i, a.eval x)) = vs) (v : Value) (hr : ∀ w, (Instr.build t vs).run P w = .ok v w)
    (h : wpList P ops Q rest (a.put o.dst v) w) : wpList P ops Q (o :: rest) a w := wpList_plain hgd fun K hK => by
  unfold Oper.wp execOp
  simp only [ho, hp, Sem.run_bind, Sem.run_pure, Result.andThen_ok, hr]
  exact hK _ _ h
/-- What is returned: a state in its cell, and a number. -/
theorem results_st {fn : Func} {p q : Tmp} (h : fn.results = #[.cell p 38, .tmp q]) (tmps : Array Value) (w : World) (B : Nat) (x : Sts) (hx : x.wf) (v : Value) (hp : tmps.getD p undef = .pointer (some ⟨B, 0, none⟩)) (hq : tmps.getD q undef = v) (hB : InS w B x) :
    (results fn tmps).run Tryd.prog w = .ok (.tuple #[x.val, v]) w := by
  have hp' : tmps[p]?.getD undef = .pointer (some ⟨B, 0, none⟩) := by simpa using hp
  have hq' : tmps[q]?.getD undef = v := by simpa using hq
  simp [results, h, hp', hq', asAddr, run_loadVar_row w B _ 38 _ _ _ hB Tryd.underlying38 rfl (infoS hx)]
theorem InS.put {w : World} {B : Nat} {x : Sts} (h : InS w B x) (y : Sts) : InS (w.setRow B y.cells.toArray) B y := setRow_heap w B _ _ _ _ h
theorem sizeSS {x y : Sts} (hx : x.wf) (hy : y.wf) : x.cells.toArray.size = y.cells.toArray.size := by rw [List.size_toArray, List.size_toArray, Sts.len hx, Sts.len hy]
/-- A variable of a state written. -/
theorem InS.setV {w : World} {B : Nat} {s : Sts} (h : InS w B s) (k : Nat) (hk : k < s.vars.length) (x : Int) : InS (w.setCell ⟨B, k, none⟩ (.int .i64 x)) B { s with vars := s.vars.set k x } := by
  rw [setCell_eq_setRow w B k _ _ _ _ h]
  have e : (s.cells.toArray).setIfInBounds k (.int .i64 x) = (Sts.cells { s with vars := s.vars.set k x }).toArray := by
    rw [List.setIfInBounds_toArray]
    unfold Sts.cells
    rw [List.set_append_left _ _ (by rw [List.length_map]; exact hk)]
    simp only [ints, List.map_set]
  rw [e]
  exact h.put _
/-- A goroutine of a state written. -/
theorem flat_set {α : Type} (C : α → List Value) {k : Nat} : ∀ (l : List α), (∀ x ∈ l, (C x).length = k) → ∀ i y, i < l.length → (C y).length = k → (l.map C).flatten.take (i * k) ++ (C y ++ (l.map C).flatten.drop (i * k + k)) = ((l.set i y).map C).flatten
  | [], _, i, y, h, _ => by simp at h
  | x :: l, hk, 0, y, _, hy => by
    have hx := hk x (by simp)
    rw [Nat.zero_mul, List.take_zero, List.nil_append, Nat.zero_add, List.set_cons_zero, List.map_cons, List.map_cons, List.flatten_cons, List.flatten_cons, List.drop_append, List.drop_eq_nil_of_le (by omega), List.nil_append, hx, Nat.sub_self, List.drop_zero]
  | x :: l, hk, i + 1, y, h, hy => by
    have hx := hk x (by simp)
    have ih := flat_set C l (fun z hz => hk z (by simp [hz])) i y (by simpa using h) hy
    rw [List.set_cons_succ, List.map_cons, List.map_cons, List.flatten_cons, List.flatten_cons, ← ih, List.take_append, List.take_of_length_le (by rw [hx, Nat.add_mul]; omega), List.drop_append, List.drop_eq_nil_of_le (by rw [hx, Nat.add_mul]; omega), List.nil_append, hx, List.append_assoc, show (i + 1) * k - k = i * k by rw [Nat.add_mul]; omega, show (i + 1) * k + k - k = i * k + k by rw [Nat.add_mul]; omega]
theorem enough_any (f : Int) (R : Bool) (hR : Hid (R = true ↔ (0 ≤ f ∧ f ≤ 4096))) (w : World) : Calls Tryd.prog 20 #[.int .i64 f] w fun e w' => e = .returned (.bool R) ∧ w' = w := by
  by_cases c0 : 0 ≤ f
  · by_cases c1 : f ≤ 4096
    · have e := Rtrue hR ⟨c0, c1⟩
      subst e
      clear hR
      go_enter Tryd.func20, Tryd.ntmps20
      go_wp2
      go_ret
      exact ⟨by simp, rfl⟩
    · have e := Rfalse hR fun q => c1 q.2
      subst e
      have d : decide (f ≤ 4096) = false := decide_eq_false c1
      clear hR c1
      go_enter Tryd.func20, Tryd.ntmps20
      go_wp2
      go_ret
      exact ⟨rfl, rfl⟩
  · have e := Rfalse hR fun q => c0 q.1
    subst e
    have d : decide (0 ≤ f) = false := decide_eq_false c0
    clear hR c0
    go_enter Tryd.func20, Tryd.ntmps20
    go_wp2
    go_ret
    exact ⟨rfl, rfl⟩
set_option maxHeartbeats 1000000 in
theorem wrong_any (M : MPr) (w : World) (hM : M.lies w) (hF : prog.Forms w) (e : Int) (he : Hid (e = if (chk insP M.pr).1 = 0 then 4 else 3)) : Calls Tryd.prog 24 #[M.val] w fun e' w' => e' = .returned (.int .i64 e) ∧ Below w.heap.size w w' := by
  obtain ⟨a, b, c, hc⟩ : ∃ a b c, Hid (chk insP M.pr = (a, b, c)) := ⟨_, _, _, rfl⟩
  have hb := boxed w (objP M)
  have hcall := check_any M _ (hM.later hb) (hF.later hb) a b c hc
  have bP := boxP_new w M
  by_cases ca : a = 0
  · subst ca
    have e4 : e = 4 := by rw [he.out, hc.out]; rfl
    subst e4
    clear he hc hM hF
    go_enter Tryd.func24, Tryd.ntmps24
    go_wp2_with (go_at_call 19; (with_reducible refine hcall.mono ?_); rintro e w2 ⟨rfl, hb2⟩)
    go_ret
    exact ⟨rfl, bthen (bthen hb hb2) (boxed _ _)⟩
  · have e3 : e = 3 := by rw [he.out, hc.out]; simp [ca]
    subst e3
    have d : (a != 0) = true := by simpa using ca
    clear he hc hM hF ca
    go_enter Tryd.func24, Tryd.ntmps24
    go_wp2_with (go_at_call 19; (with_reducible refine hcall.mono ?_); rintro e w2 ⟨rfl, hb2⟩)
    go_ret
    exact ⟨rfl, bthen (bthen hb hb2) (boxed _ _)⟩
end Go.Proofs.YtjcmhaaohdmjpaaDoor.pg
/- A goroutine written into a state. -/
namespace Go.Proofs.YtjcmhaaohdmjpaaDoor.pg
open Go.ChangeShapes Go.WideShapes Go.ChangeAt Go.RowKit
set_option linter.unusedVariables false
set_option linter.unusedSimpArgs false
set_option maxRecDepth 100000
theorem setCells_block {B : Nat} {t : TypeId} : ∀ (vs : List Value) (o : Nat) (w : World) (cs : List Value), w.heap[B]? = some (.cells cs.toArray t (0, 0)) → o + vs.length ≤ cs.length → (w.setCells B o vs).heap[B]? = some (.cells (cs.take o ++ (vs ++ cs.drop (o + vs.length))).toArray t (0, 0))
  | [], o, w, cs, h, _ => by
    rw [List.nil_append, List.length_nil, Nat.add_zero, List.take_append_drop]
    exact h
  | v :: vs, o, w, cs, h, hl => by
    rw [List.length_cons] at hl
    have h1 : (w.setCell ⟨B, o, none⟩ v).heap[B]? = some (.cells (cs.set o v).toArray t (0, 0)) := by
      rw [setCell_eq_setRow w B o _ _ _ _ h, List.setIfInBounds_toArray]
      exact setRow_heap w B _ _ _ _ h
    have ih := setCells_block vs (o + 1) _ (cs.set o v) h1 (by rw [List.length_set]; omega)
    show ((w.setCell ⟨B, o, none⟩ v).setCells B (o + 1) vs).heap[B]? = _
    rw [ih]
    congr 3
    have e1 : (cs.set o v).take (o + 1) = cs.take o ++ [v] := by
      rw [List.take_add_one, List.take_set_of_le (Nat.le_refl _), List.getElem?_set_self (by omega)]
      rfl
    have e2 : (cs.set o v).drop (o + 1 + vs.length) = cs.drop (o + (vs.length + 1)) := by
      rw [List.drop_set_of_lt (by omega)]
      congr 1
      omega
    rw [e1, e2, List.append_assoc, List.length_cons]
    rfl
theorem setCells_out {B b : Nat} (hb : b ≠ B) : ∀ (vs : List Value) (o : Nat) (w : World), (w.setCells B o vs).heap[b]? = w.heap[b]?
  | [], _, _ => rfl
  | v :: vs, o, w => (setCells_out hb vs (o + 1) _).trans (Below.heap_setCell _ _ _ _ hb)
theorem below_cells {n B : Nat} (hB : n ≤ B) : ∀ (vs : List Value) (o : Nat) (a w : World), Below n a w → Below n a (w.setCells B o vs)
  | [], _, _, _, h => h
  | v :: vs, o, a, w, h => below_cells hB vs (o + 1) a _ (h.setCell (p := ⟨B, o, none⟩) hB v)
theorem InS.setGo {w : World} {B : Nat} {s : Sts} (h : InS w B s) (hs : s.wf) (g : Nat) (hg : g < 6) (x : Gr) (hx : x.wf) : InS (w.setCells B (48 + g * 12) x.cells) B (setG s g x) := by
  have hxl := Gr.len hx
  have hk : ∀ y ∈ s.gos, y.cells.length = 12 := fun y hy => Gr.len (hs.ag y hy)
  have lf : (s.gos.map Gr.cells).flatten.length = 72 := by rw [flat_len Gr.cells 12 _ hk, hs.lg]
  have la : (ints s.vars ++ (ints s.own ++ (s.ch.map Chc.cells).flatten)).length = 48 := by simp only [List.length_append, List.length_map, hs.lv, hs.lo, flat_len Chc.cells 9 _ fun c hc => Chc.len (hs.ac c hc), hs.lc]
  have e : s.cells = (ints s.vars ++ (ints s.own ++ (s.ch.map Chc.cells).flatten)) ++ ((s.gos.map Gr.cells).flatten ++ [.int .i64 s.cnt]) := by simp only [List.append_assoc]; rfl
  have key := setCells_block x.cells (48 + g * 12) w s.cells h (by rw [Sts.len hs, hxl]; omega)
  unfold InS
  rw [key]
  have hset := flat_set Gr.cells s.gos hk g x (by rw [hs.lg]; exact hg) hxl
  have e3 : (setG s g x).cells = (ints s.vars ++ (ints s.own ++ (s.ch.map Chc.cells).flatten)) ++ (((s.gos.set g x).map Gr.cells).flatten ++ [.int .i64 s.cnt]) := by simp only [List.append_assoc]; rfl
  have e4 : s.cells.take (48 + g * 12) ++ (x.cells ++ s.cells.drop (48 + g * 12 + x.cells.length)) = (setG s g x).cells := by
    rw [e3, ← hset, e, hxl]
    generalize (s.gos.map Gr.cells).flatten = f at *
    generalize ints s.vars ++ (ints s.own ++ (s.ch.map Chc.cells).flatten) = A at *
    rw [List.take_append, List.take_of_length_le (by omega), la, Nat.add_sub_cancel_left, List.take_append_of_le_length (by omega), List.drop_append, List.drop_eq_nil_of_le (by omega), List.nil_append, la, show 48 + g * 12 + 12 - 48 = g * 12 + 12 by omega, List.drop_append_of_le_length (by omega)]
    simp only [List.append_assoc]
  rw [e4]
theorem InS.there {w : World} {B : Nat} {s : Sts} (h : InS w B s) (hs : s.wf) (o n : Nat) (ho : o + n ≤ 121) : w.there B o n := fun j hj => by
  have hl := Sts.len hs
  refine ⟨?_, frozen_of_row _ _ _ _ _ h⟩
  rw [cell_ofG (k := o + j) h (by rw [List.getElem?_toArray, List.getElem?_eq_getElem (by omega)])]
  rfl
theorem wpList_putG {ops : Array Oper} {rest : List Oper} {o : Oper} {a : Act} {w : World} {Q : Exit → Act → World → Prop} (hgd : o.guard = none) (x y : Operand) (ho : o.op = .store 35 x y) (B g : Nat) (s : Sts) (hs : s.wf) (hg : g < 6) (X : Gr) (hX : X.wf) (hx : a.eval x = .pointer (some ⟨B, 48 + g * 12, none⟩)) (hy : a.eval y = X.val) (hB : InS w B s)
    (h : ∀ W', InS W' B (setG s g X) → (∀ n v, n ≤ B → Below n v w → Below n v W') → (∀ b, b ≠ B → W'.heap[b]? = w.heap[b]?) → wpList Tryd.prog ops Q rest (a.put o.dst undef) W') : wpList Tryd.prog ops Q (o :: rest) a w := by
  refine wpList_store_mid hgd 35 x y ho B (48 + g * 12) X.cells.toArray hx hy (hB.there hs _ _ (by rw [List.size_toArray, Gr.len hX]; omega)) (infoGw hX) (oneG X) ?_
  rw [List.toList_toArray]
  exact h _ (hB.setGo hs g hg X hX) (fun n v hn hb => below_cells hn _ _ _ _ hb) (fun b hb => setCells_out hb _ _ _)
theorem ixg (B : Nat) (a : Int) (h0 : 0 ≤ a) (h1 : a < 6) : ∀ wx, (Instr.indexAt 36 (.pointer (some ⟨B, 48, none⟩)) (.int .i64 a)).run Tryd.prog wx = .ok (.pointer (some ⟨B, 48 + a.toNat * 12, none⟩)) wx := ixp Tryd.underlying36 (fun wx => Tryd.sizeOf35 wx) B 48 a h0 h1
theorem ixg0 (B : Nat) : ∀ wx, (Instr.indexAt 36 (.pointer (some ⟨B, 48, none⟩)) (.int .i64 0)).run Tryd.prog wx = .ok (.pointer (some ⟨B, 48, none⟩)) wx := ixg B 0 (by omega) (by omega)
theorem ixv8 (B k : Nat) (h : k < 8) : ∀ wx, (Instr.indexAt 28 (.pointer (some ⟨B, 0, none⟩)) (.int .i64 (k : Int))).run Tryd.prog wx = .ok (.pointer (some ⟨B, k, none⟩)) wx := by
  have := ixp (t := 28) Tryd.underlying28 (fun wx => Tryd.sizeOf2 wx) B 0 (k : Int) (by omega) (by omega)
  rwa [show 0 + ((k : Int)).toNat * 1 = k by omega] at this
/-- What Start tells. -/
noncomputable def startR (P : Pr) (f : Int) : Sts × Int := if (chk insP P).1 = 0 then (if 0 ≤ f ∧ f ≤ 4096 then (startS word.apF P f.toNat, 0) else (zeroS, 1)) else (zeroS, 3)
/-- Where all lies while a state is made. -/
structure StM (w wr : World) (M : MPr) (SB : Nat) (s : Sts) : Prop where
  b : Below w.heap.size w wr
  p : BoxP wr w.heap.size M
  z : InS wr (w.heap.size + 1) zeroS
  st : InS wr SB s
  hS : w.heap.size + 1 < SB
theorem StM.later {w wr w' : World} {M : MPr} {SB : Nat} {s : Sts} (h : StM w wr M SB s) (hb : Below wr.heap.size wr w') : StM w w' M SB s := ⟨bthen h.b hb, h.p.later hb, h.z.later hb, h.st.later hb, h.hS⟩
def ivS (vs : List Vr) : Sts := { firstS with vars := iv vs }
theorem ivS_wf {vs : List Vr} (h : vs.length ≤ 8) (ha : ∀ x ∈ vs, I64 x.init) : (ivS vs).wf := ⟨iv_len h, rfl, rfl, rfl, iv_all ha, firstS_wf.ao, firstS_wf.ac, firstS_wf.ag, firstS_wf.cn⟩
theorem startS_eq (ap : Int → Int → Int → Int × Int) (P : Pr) (f : Nat) : setG (ivS P.vars) 0 (runG ap (fun o => decide (locP o)) (fnAt P 0).code f freshG) = startS ap P f := rfl
end Go.Proofs.YtjcmhaaohdmjpaaDoor.pg
