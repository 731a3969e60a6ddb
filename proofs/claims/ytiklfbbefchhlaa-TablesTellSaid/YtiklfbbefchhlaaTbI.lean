/- TablesTell: what the law holds while it calls; a link against itself. -/
import Derived.Test.YtiklfbbefchhlaaTbH
import Derived.Test.YtiklfbbefchhlaaRfB
import Derived.Deep.Slices
import Derived.ChangeSame
namespace Go.Proofs.Ytiklfbbefchhlaa
open Go.RowKit Go.ChangeShapes Go.WideShapes Go.Deep
set_option maxHeartbeats 6400000
set_option maxRecDepth 100000
theorem s40 : Try.prog.stoodInHeld 40 = false := by kernel_rfl
theorem g40 : Try.prog.eqGuardType Try.prog.depth 40 = false := by kernel_rfl
theorem ne40 (x : Lnk) (W : World) : (binOp .neq 40 (.agg #[.int .i64 x.a, .int .i64 x.b, .int .i64 x.m, .int .i64 x.c]) (.agg #[.int .i64 x.a, .int .i64 x.b, .int .i64 x.m, .int .i64 x.c])).run Try.prog W = .ok (.bool false) W := by
  rw [run_neq_struct, run_equalIn_agg W 9999 40 _ _ (by simp [Program.fieldsOf, Try.underlying40]) s40]
  simp [Program.fieldsOf, Try.underlying40, Op.eqFields, part, go_sem]
/-- What TablesTell holds: the graph's box, both tables, the copy's box. -/
structure HQ (TabAt : World → Addr → Nat → List Lnk → Prop) (w : World) (N : Nat) (A : Option Addr) (n c : Nat) (l : List Lnk) (p p' : Addr) (BX : Nat) (Ag : Option Addr) (cg : Nat) (w' : World) : Prop where
  held : Held w (N : Int) A n c w'
  tab : TabAt w' p N l
  ref : RefAt w' p' N l
  box : w'.heap[BX]? = some (.cells #[.int .i64 (N : Int), .slice Ag n cg] 24 (0, 0))
  lnk : RLnk w' w'.heap.size Ag n l
theorem HQ.lt {TabAt : World → Addr → Nat → List Lnk → Prop} {w : World} {N : Nat} {A : Option Addr} {n c : Nat} {l : List Lnk} {p p' : Addr} {BX : Nat} {Ag : Option Addr} {cg : Nat} {w' : World} (h : HQ TabAt w N A n c l p p' BX Ag cg w') : BX < w'.heap.size := by
  rcases Nat.lt_or_ge BX w'.heap.size with h1 | h1
  · exact h1
  · have h2 := h.box
    rw [Array.getElem?_eq_none h1] at h2; cases h2
theorem HQ.next {TabAt : World → Addr → Nat → List Lnk → Prop} (hk : ∀ (w w' : World) (p : Addr) (N : Nat) (l : List Lnk), TabAt w p N l → Below w.heap.size w w' → TabAt w' p N l) {w : World} {N : Nat} {A : Option Addr} {n c : Nat} {l : List Lnk} {p p' : Addr} {BX : Nat} {Ag : Option Addr} {cg : Nat} {w' w'' : World} (h : HQ TabAt w N A n c l p p' BX Ag cg w') (hb : Below w'.heap.size w' w'') : HQ TabAt w N A n c l p p' BX Ag cg w'' :=
  ⟨h.held.next hb, hk _ _ _ _ _ h.tab hb, refAt_keep _ _ _ _ _ h.ref hb, box_below h.box hb h.lt, h.lnk.on hb⟩
end Go.Proofs.Ytiklfbbefchhlaa
