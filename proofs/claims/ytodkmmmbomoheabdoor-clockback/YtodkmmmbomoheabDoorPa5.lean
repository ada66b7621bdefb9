/- The document's own Parse of clocks, walked. -/
import Derived.Test.YtodkmmmbomoheabDoorPa4
namespace Go.Proofs.YtodkmmmbomoheabDoor.pg
open Go.ChangeShapes Go.WideShapes Go.ChangeAt Go.RowKit
set_option linter.unusedVariables false
set_option linter.unusedSimpArgs false
set_option maxRecDepth 100000
attribute [local go_sem ↓] Go.wp_at_zero Go.wp_at_succ
theorem rp_full {c : UInt8} {r : List UInt8} {n : Nat} {d : Bool} {a : Ck} (h : 6 ≤ n) : rp (c :: r) n d a = some a := by rw [rp, if_pos h]
theorem rp_big {c : UInt8} {r : List UInt8} {n : Nat} {d : Bool} {a : Ck} {m : Int} (h : n < 6) (hc : isDg c = true) (hm : a.list[n]? = some m) (hv : 1073741824 < m * 10 + ((c.toNat : Int) - 48)) : rp (c :: r) n d a = none := by
  rw [rp, if_neg (by omega), if_pos hc, hm]
  simp only [Option.getD_some]
  rw [if_pos hv]
theorem rp_one {c : UInt8} {r : List UInt8} {n : Nat} {d : Bool} {a : Ck} {m : Int} (h : n < 6) (hc : isDg c = true) (hm : a.list[n]? = some m) (hv : ¬ 1073741824 < m * 10 + ((c.toNat : Int) - 48)) : rp (c :: r) n d a = rp r n true (a.put n (m * 10 + ((c.toNat : Int) - 48))) := by
  rw [rp, if_neg (by omega), if_pos hc, hm]
  simp only [Option.getD_some]
  rw [if_neg hv]
theorem rp_stop {c : UInt8} {r : List UInt8} {n : Nat} {a : Ck} (h : n < 6) (hc : isDg c = false) : rp (c :: r) n false a = none := by
  rw [rp, if_neg (by omega), hc]; simp
end Go.Proofs.YtodkmmmbomoheabDoor.pg
