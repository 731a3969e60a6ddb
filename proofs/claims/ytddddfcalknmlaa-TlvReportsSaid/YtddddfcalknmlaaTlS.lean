/- A scope in which the run jumps to several labels: what holds at each, and a measure that every jump lowers. -/
import Derived.Test.YtddddfcalknmlaaTlU
import Derived.ScopeJumps
import Derived.WalkMore
namespace Go.Proofs.Ytddddfcalknmlaa
open Go.RowKit

/-- As Q; by a goto to label l: J l. -/
def jumps (J : Nat → Act → World → Prop) (Q : Exit → Act → World → Prop) : Exit → Act → World → Prop
  | .goto l, a, w => J l a w
  | e, a, w => Q e a w
section
variable {P : Program} {a : Act} {w : World} {Q : Exit → Act → World → Prop}
theorem jumps_goto {J : Nat → Act → World → Prop} {l : Nat} : jumps J Q (.goto l) a w = J l a w := rfl
theorem jumps_ret {J : Nat → Act → World → Prop} : jumps J Q .ret a w = Q .ret a w := rfl
theorem jumps_normal {J : Nat → Act → World → Prop} : jumps J Q .normal a w = Q .normal a w := rfl
theorem wp_scope_labels {c : Code} (J : Nat → Act → World → Prop) (μ : Nat → Act → World → Nat)
    (first0 : (∀ l a w rest, J l a w → findLabel c l = some (.seq .skip rest) → rest.wp P (jumps J Q) a w) → c.wp P (jumps J Q) a w)
    (pass0 : ∀ l a w, J l a w → ∃ rest, findLabel c l = some (.seq .skip rest) ∧ rest.wp P (jumps (fun l' a' w' => J l' a' w' ∧ μ l' a' w' < μ l a w) Q) a w) : (Code.scope c).wp P Q a w := by
  have first : c.wp P (jumps J Q) a w := first0 fun l a w rest hJ hf => by
    obtain ⟨rest', hf', hp⟩ := pass0 l a w hJ
    rw [hf] at hf'
    obtain rfl : rest = rest' := by simpa using hf'
    refine wp_mono hp fun e a w h => ?_
    cases e <;> first | exact h | exact h.1
  have pass : ∀ l a w, J l a w → ∃ rest, findLabel c l = some rest ∧ rest.wp P (jumps (fun l' a' w' => J l' a' w' ∧ μ l' a' w' < μ l a w) Q) a w := fun l a w hJ => by
    obtain ⟨rest, hf, hp⟩ := pass0 l a w hJ
    exact ⟨_, hf, wp_seq (wp_skip hp)⟩
  intro b k cs
  have key : ∀ n l a w, μ l a w = n → J l a w → ∃ rest, findLabel c l = some rest ∧ ∃ e a' w', Q e a' w' ∧ Arrives P (lone (b.at a (.code rest :: .inScope c :: k)) cs w) b k cs e a' w' := by
    intro n
    induction n using Nat.strongRecOn with
    | _ n ih =>
      intro l a w hn hJ
      obtain ⟨rest, hf, hp⟩ := pass l a w hJ
      refine ⟨rest, hf, ?_⟩
      obtain ⟨e, a₁, w₁, hq, harr⟩ := hp b (.inScope c :: k) cs
      cases e with
      | normal => exact ⟨.normal, a₁, w₁, hq, Steps.trans harr (.one step_inScope)⟩
      | exit id => exact ⟨.exit id, a₁, w₁, hq, fun k' hk => harr k' (by simp [exitTo, hk])⟩
      | goto l' =>
        obtain ⟨hJ', hlt⟩ := hq
        obtain ⟨rest', hf', e₂, a₂, w₂, hq₂, harr₂⟩ := ih _ (by omega) l' a₁ w₁ rfl hJ'
        have hg : gotoIn l' (.inScope c :: k) = some (.code rest' :: .inScope c :: k) := by simp [gotoIn, hf']
        exact ⟨e₂, a₂, w₂, hq₂, .of_steps (harr _ hg) harr₂⟩
      | ret => exact ⟨_, a₁, w₁, hq, harr⟩
      | panic ch => exact ⟨_, a₁, w₁, hq, harr⟩
      | outgrown => exact ⟨_, a₁, w₁, hq, harr⟩
  obtain ⟨e, a₁, w₁, hq, harr⟩ := first b (.inScope c :: k) cs
  cases e with
  | normal => exact ⟨.normal, a₁, w₁, hq, .head step_scope (Steps.trans harr (.one step_inScope))⟩
  | exit id => exact ⟨.exit id, a₁, w₁, hq, fun k' hk => .head step_scope (harr k' (by simp [exitTo, hk]))⟩
  | goto l' =>
    have hJ' : J l' a₁ w₁ := hq
    obtain ⟨rest', hf', e₂, a₂, w₂, hq₂, harr₂⟩ := key _ l' a₁ w₁ rfl hJ'
    have hg : gotoIn l' (.inScope c :: k) = some (.code rest' :: .inScope c :: k) := by simp [gotoIn, hf']
    exact ⟨e₂, a₂, w₂, hq₂, .of_steps (.head step_scope (harr _ hg)) harr₂⟩
  | ret => exact ⟨_, a₁, w₁, hq, .of_steps (.one step_scope) harr⟩
  | panic ch => exact ⟨_, a₁, w₁, hq, .of_steps (.one step_scope) harr⟩
  | outgrown => exact ⟨_, a₁, w₁, hq, .of_steps (.one step_scope) harr⟩
end

/-- What holds at each of Get's labels: 0 a type, 1 a size, 3 the data, 2 bytes are missing. -/
def GetAt (bs : List UInt8) (l : Nat) (x0 : Value) (sz : Int) (rest : List UInt8) (done : List Itm) : Prop :=
  match l with
  | 0 => getI bs = pre done (getI rest)
  | 1 => ∃ t : UInt8, x0 = .int .i64 (t.toNat : Int) ∧ getI bs = pre done (getI (t :: rest))
  | 2 => getI bs = none
  | 3 => ∃ t a b : UInt8, x0 = .int .i64 (t.toNat : Int) ∧ sz = (num2 a b : Nat) ∧ getI bs = pre done (getI (t :: a :: b :: rest))
  | _ => False
def lab (l : Nat) : Nat := match l with | 0 => 0 | _ => 1
def GetW (bs : List UInt8) (w : World) (l : Nat) (A' : Option Addr) (m c' : Nat) (v : Value) (sz : Int) (wr : World) : Prop :=
  ∃ (rest : List UInt8) (done : List Itm) (xs : List Value) (x0 x1 : Value), GetAt bs l x0 sz rest done ∧ RByt wr w.heap.size A' m rest ∧ m ≤ c' ∧ wr.heap[w.heap.size]? = some (.cells #[x0, x1] 26 (0, 0)) ∧
    wr.ownsRow (w.heap.size + 1) 26 2 v done.length xs ∧ OItm wr (w.heap.size + 1) xs done ∧ done.length + m + lab l ≤ bs.length ∧ Below w.heap.size w wr
def GetJ (bs : List UInt8) (w : World) (l : Nat) (a : Act) (wr : World) : Prop :=
  ∃ (A' : Option Addr) (m c' : Nat) (v : Value) (sz : Int) (u7 u8 u9 u10 u11 u12 u13 u14 u15 u16 u17 u18 u19 u20 u21 u22 u23 u24 u25 u26 u27 u28 u29 u30 u31 u32 u33 u34 u35 u36 u37 u38 u39 u40 u41 u42 u43 u44 u45 u46 u47 : Value),
    a = { tmps := #[.slice A' m c', undef, .slice none 0 0, .int .i64 0, v, .pointer (some ⟨w.heap.size, 0, none⟩), .int .i64 sz, u7, u8, u9, u10, u11, u12, u13, u14, u15, u16, u17, u18, u19, u20, u21, u22, u23, u24, u25, u26, u27, u28, u29, u30, u31, u32, u33, u34, u35, u36, u37, u38, u39, u40, u41, u42, u43, u44, u45, u46, u47], defers := [] } ∧ GetW bs w l A' m c' v sz wr
def lenOf : Value → Nat | .slice _ n _ => n | _ => 0
def GetM (l : Nat) (a : Act) (_ : World) : Nat := 2 * lenOf (a.tmps.getD 0 undef) + (match l with | 0 => 1 | 1 => 1 | 3 => 2 | _ => 0)
end Go.Proofs.Ytddddfcalknmlaa
