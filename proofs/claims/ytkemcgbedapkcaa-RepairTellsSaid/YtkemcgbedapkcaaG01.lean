/- Merged: WdA WdB WdC WdD WgA WgB WgC. -/
import Derived.Test.YtkemcgbedapkcaaProg
import Derived.WalkKit
import Derived.Deep.QuietTactic
import Derived.BigQuiet
import Derived.Below
import Derived.Laws.OwnMore
import Derived.Deep.AppendLies
import Derived.Deep.Draws
import Derived.Laws.BitsLemmas
import Derived.Laws.BitsAllLaws
import Derived.Laws.StructEq
import Derived.Laws.AppendOwnNone
import Derived.Laws.IdiomStrings
import Derived.Deep.RegionHeld3
import Derived.Deep.RegionWith
import Derived.IntWalk
import Derived.OwnWalk
import Derived.Outline
import Derived.Deep.Slices
import Derived.Deep.Fields
import Derived.ChangeSame
import Derived.ChangeOld
import Derived.OpenShut
import Derived.Lib.SmallJoins
import Derived.Laws.MakeOwn
/- Words that are of no layer and name no type of the program: what is hidden from a walk, bytes as cells, slices that read as bytes, what a call owns, joins and masks of bits, copies. -/
namespace Go.Proofs.Ytkemcgbedapkcaa
open Go.RowKit
set_option maxHeartbeats 1600000
set_option maxRecDepth 100000
theorem hid {p : Prop} (h : p) : Hid p := h
theorem ret_bool {a b : Bool} (h : a = b) : Ending.returned (.bool a) = Ending.returned (.bool b) := by rw [h]
theorem ret_int {k : IntKind} {a b : Int} (h : a = b) : Ending.returned (.int k a) = Ending.returned (.int k b) := by rw [h]
def byt (x : Int) : UInt8 := UInt8.ofNat (x % 256).toNat
theorem byt_val (x : Int) : ((byt x).toNat : Int) = x % 256 := by
  unfold byt
  rw [UInt8.toNat_ofNat']
  omega
def bcells (l : List UInt8) : List Value := l.map fun b => .int .u8 (b.toNat : Int)
theorem bcells_app (a b : List UInt8) : bcells (a ++ b) = bcells a ++ bcells b := List.map_append
theorem bcells_len (a : List UInt8) : (bcells a).length = a.length := List.length_map _
/-- A slice value reads as the bytes bs below block B. -/
def RByt (w : World) (B : Nat) (A : Option Addr) (n : Nat) (bs : List UInt8) : Prop :=
  bs.length = n ∧ (0 < n → ∃ b off, A = some ⟨b, off, none⟩ ∧ b < B ∧ ∀ (i : Nat) (x : UInt8), bs[i]? = some x → w.cell? ⟨b, off + i, none⟩ = some (.int .u8 (x.toNat : Int)))
theorem RByt.below {w w' : World} {B n : Nat} {A : Option Addr} {l : List UInt8} (h : RByt w B A n l) (hb : Below B w w') : RByt w' B A n l := by
  refine ⟨h.1, fun hn => ?_⟩
  obtain ⟨b, off, hA, hB, hc⟩ := h.2 hn
  exact ⟨b, off, hA, hB, fun i e he => (hb.cell (p := ⟨b, _, none⟩) hB).trans (hc i e he)⟩
theorem RByt.more {w : World} {B B' n : Nat} {A : Option Addr} {l : List UInt8} (h : RByt w B A n l) (hB : B ≤ B') : RByt w B' A n l := by
  refine ⟨h.1, fun hn => ?_⟩
  obtain ⟨b, off, hA, hb, hc⟩ := h.2 hn
  exact ⟨b, off, hA, by omega, hc⟩
theorem grown_of_below {a w : World} (h : Below a.heap.size a w) (row : Option Nat) : a.grownBy w row := ⟨h.os, h.tape, h.output, h.size, fun i hi _ => h.block i hi⟩
theorem own_below {w w' : World} {base : Nat} {e : TypeId} {size : Nat} {v : Value} {n : Nat} {xs : List Value} (h : w.ownsRow base e size v n xs) (hb : Below w.heap.size w w') : w'.ownsRow base e size v n xs := by
  refine h.kept (grown_of_below hb none) ?_
  cases hv : v.ownBlock with
  | none => exact .inl rfl
  | some k => exact .inr (by simp)
theorem wraps_u32 (n : Int) (_ : 0 ≤ n) (h₁ : n < 2 ^ 32) : IntKind.u32.wrap n = n := by rw [IntKind.wrap_u32]; omega
theorem wraps_i64 (n : Int) (_ : 0 ≤ n) (h₁ : n < 2 ^ 63) : IntKind.i64.wrap n = n := by rw [IntKind.wrap_i64]; omega
theorem u32_join (i : Nat) (x y : Int) (hx₀ : 0 ≤ x) (hx : x % 2 ^ i = 0) (hx₁ : x < 4294967296) (hy₀ : 0 ≤ y) (hy : y < 2 ^ i) (hy₁ : y < 4294967296) : bits .or .u32 x y = x + y :=
  bits_join .u32 32 (by decide) wraps_u32 i x y hx₀ hx (by simpa using hx₁) hy₀ hy (by simpa using hy₁)
theorem i64_join (i : Nat) (x y : Int) (hx₀ : 0 ≤ x) (hx : x % 2 ^ i = 0) (hx₁ : x < 9223372036854775808) (hy₀ : 0 ≤ y) (hy : y < 2 ^ i) (hy₁ : y < 9223372036854775808) : bits .or .i64 x y = x + y :=
  bits_join .i64 63 (by decide) wraps_i64 i x y hx₀ hx (by simpa using hx₁) hy₀ hy (by simpa using hy₁)
theorem u32_mask (i : Nat) (hi : i ≤ 32) (m : Int) (hm : m = 2 ^ i - 1) (x : Int) (h₀ : 0 ≤ x) (h₁ : x < 4294967296) : bits .and .u32 x m = x % 2 ^ i := by
  rw [hm]; exact bits_mask .u32 32 (by decide) wraps_u32 i hi x h₀ (by simpa using h₁)
theorem i64_mask (i : Nat) (hi : i ≤ 63) (m : Int) (hm : m = 2 ^ i - 1) (x : Int) (h₀ : 0 ≤ x) (h₁ : x < 9223372036854775808) : bits .and .i64 x m = x % 2 ^ i := by
  rw [hm]; exact bits_mask .i64 63 (by decide) wraps_i64 i hi x h₀ (by simpa using h₁)
theorem u32_or_assoc (x y z : Int) (hx : 0 ≤ x) (hx' : x < 4294967296) (hy : 0 ≤ y) (hy' : y < 4294967296) (hz : 0 ≤ z) (hz' : z < 4294967296) : bits .or .u32 (bits .or .u32 x y) z = bits .or .u32 x (bits .or .u32 y z) := by
  obtain ⟨a, rfl⟩ := Int.eq_ofNat_of_zero_le hx
  obtain ⟨b, rfl⟩ := Int.eq_ofNat_of_zero_le hy
  obtain ⟨c, rfl⟩ := Int.eq_ofNat_of_zero_le hz
  have h1 : a ||| b < 2 ^ 32 := Nat.or_lt_two_pow (by omega) (by omega)
  have h2 : b ||| c < 2 ^ 32 := Nat.or_lt_two_pow (by omega) (by omega)
  rw [u32_or_nat a b (by omega) (by omega), u32_or_nat b c (by omega) (by omega), u32_or_nat _ c (by omega) (by omega), u32_or_nat a _ (by omega) (by omega), Nat.or_assoc]
theorem word32 (a b c d : Int) (ha : 0 ≤ a) (ha' : a < 256) (hb : 0 ≤ b) (hb' : b < 256) (hc : 0 ≤ c) (hc' : c < 256) (hd : 0 ≤ d) (hd' : d < 256) :
    bits .or .u32 (bits .or .u32 (bits .or .u32 (a * 16777216) (b * 65536)) (c * 256)) d = a * 16777216 + b * 65536 + c * 256 + d := by
  rw [u32_join 24 (a * 16777216) (b * 65536) (by omega) (by omega) (by omega) (by omega) (by omega) (by omega), u32_join 16 _ (c * 256) (by omega) (by omega) (by omega) (by omega) (by omega) (by omega),
    u32_join 8 _ d (by omega) (by omega) (by omega) (by omega) (by omega) (by omega)]
theorem word64 (a b c d : Int) (ha : 0 ≤ a) (ha' : a < 256) (hb : 0 ≤ b) (hb' : b < 256) (hc : 0 ≤ c) (hc' : c < 256) (hd : 0 ≤ d) (hd' : d < 256) :
    bits .or .i64 (bits .or .i64 (bits .or .i64 (a * 16777216) (b * 65536)) (c * 256)) d = a * 16777216 + b * 65536 + c * 256 + d := by
  rw [i64_join 24 (a * 16777216) (b * 65536) (by omega) (by omega) (by omega) (by omega) (by omega) (by omega), i64_join 16 _ (c * 256) (by omega) (by omega) (by omega) (by omega) (by omega) (by omega),
    i64_join 8 _ d (by omega) (by omega) (by omega) (by omega) (by omega) (by omega)]
theorem grown_below {w w' : World} (h : w.grownBy w' none) : Below w.heap.size w w' := ⟨h.os, h.tape, h.output, h.size, fun k hk => h.block k hk (by simp)⟩
theorem new_row {w : World} {xs : List Value} {cs : Array Value} {t : TypeId} (h : cs = xs.toArray) : ∀ (j : Nat) (u : Value), xs[j]? = some u → (w.alloc (.cells cs t)).cell? ((⟨w.heap.size, 0, none⟩ : Addr).add j) = some u := by
  intro j u hu
  subst h
  rw [show (⟨w.heap.size, 0, none⟩ : Addr).add j = ⟨w.heap.size, j, none⟩ by simp [Go.WideShapes.add_plain], cell_of_row _ _ _ _ _ _ (heap_alloc_new w _)]
  simpa using hu
theorem bcells_one (l : List UInt8) : ∀ u ∈ bcells l, u.oneCell' = true := by
  intro u hu
  simp only [bcells, List.mem_map] at hu
  obtain ⟨b, _, rfl⟩ := hu
  rfl
/-- behind a round: a block for the entry, a call, a block for what is appended, the append -/
theorem below_round {w wr w3 w4 : World} {B : Nat} {o1 o2 : Obj} {v : Value} {e : TypeId} {size n : Nat} {xs : List Value} (hB : B = w.heap.size) (h : Below B w wr) (h3 : Below (wr.alloc o1).heap.size (wr.alloc o1) w3)
    (hown : wr.ownsRow B e size v n xs) (hg : (w3.alloc o2).grownBy w4 v.ownBlock) : Below B w w4 := by
  have hs1 := h.size
  have hs3 := h3.size
  have a1 : Below B w (wr.alloc o1) := h.alloc (by omega) _
  have a2 : Below B w w3 := a1.trans (h3.mono (by simp; omega))
  refine Below.grown (a2.alloc (by simp at hs3; omega) o2) hg (by simp at hs3 ⊢; omega) (fun k hk => (hown.lt k hk).1)
theorem RByt.take {w : World} {B n k : Nat} {A : Option Addr} {l : List UInt8} (h : RByt w B A n l) (hk : k ≤ n) : RByt w B A k (l.take k) := by
  refine ⟨by rw [List.length_take, h.1]; omega, fun hk0 => ?_⟩
  obtain ⟨b, off, h1, h2, h3⟩ := h.2 (by omega)
  refine ⟨b, off, h1, h2, fun i x hx => h3 i x ?_⟩
  rw [List.getElem?_take] at hx
  split at hx
  · exact hx
  · simp at hx
theorem byt_src {w : World} {B g o n : Nat} {bs : List UInt8} (h : RByt w B (some ⟨g, o, none⟩) n bs) (hn : 0 < n) : ∀ (j : Nat) (u : Value), (bcells bs)[j]? = some u → w.cell? ((⟨g, o, none⟩ : Addr).add j) = some u := by
  intro j u hu
  obtain ⟨b, off, h1, _, hc⟩ := h.2 hn
  simp only [Option.some.injEq, Addr.mk.injEq] at h1
  obtain ⟨rfl, rfl, _⟩ := h1
  rw [Go.WideShapes.add_plain]
  simp only [bcells, List.getElem?_map, Option.map_eq_some_iff] at hu
  obtain ⟨x, hx, rfl⟩ := hu
  exact hc j x hx
theorem byt_len {w : World} {B n : Nat} {A : Option Addr} {bs : List UInt8} (h : RByt w B A n bs) : (bcells bs).length = n * 1 := by rw [bcells_len, h.1]; omega
theorem below_two {w3 w4 w5 : World} {o : Obj} {v : Value} {e : TypeId} {size n : Nat} {xs : List Value} (h4 : w3.grownBy w4 none) (hown : w4.ownsRow w3.heap.size e size v n xs) (h5 : (w4.alloc o).grownBy w5 v.ownBlock) : Below w3.heap.size w3 w5 :=
  Below.grown ((grown_below h4).alloc (grown_below h4).size o) h5 (by have := h4.size; simp; omega) (fun k hk => (hown.lt k hk).1)
/-- 'append([]T(nil), x...)', whatever x: what it held is owned. -/
theorem wpList_copy {P : Program} {w : World} {ops : Array Oper} {rest : List Oper} {o : Oper} {a : Act} {Q : Exit → Act → World → Prop} (hgd : o.guard = none) (s x : Operand) (t : TypeId)
    (ho : o.op = .call { callee := .builtin .append, args := #[s, x], argTypes := #[t, t] })
    (base : Nat) (e : TypeId) (i : TypeInfo) (z : Value) (size bytes : Nat) (ht : P.underlying t = some (.slice e)) (hi : P.info? e = some i) (hz : i.zero = some z)
    (hsize : i.size = size) (hby : i.bytes = bytes) (hzs : z.cells.size = size) (hsz : 0 < size)
    (hs : a.eval s = .slice none 0 0) (A : Option Addr) (m c : Nat) (news : List Value) (hx : a.eval x = .slice A m c) (hA : A = none → m = 0 ∧ c = 0)
    (hl : news.length = m * size) (hnews : ∀ ad, A = some ad → ∀ j u, news[j]? = some u → w.cell? (ad.add j) = some u) (h1 : ∀ u ∈ news, u.oneCell' = true)
    (h63 : m ≤ maxLen) (hbytes : m * bytes ≤ 140737488355328) (hbase : base ≤ w.heap.size)
    (h : ∀ v' w', w'.ownsRow base e size v' m news → Below w.heap.size w w' → wpList P ops Q rest (a.put o.dst v') w') : wpList P ops Q (o :: rest) a w := by
  cases A with
  | none =>
    obtain ⟨rfl, rfl⟩ := hA rfl
    have hn0 : news = [] := List.length_eq_zero_iff.1 (by omega)
    subst hn0
    exact wpList_append_own_none hgd s x t ho base e i size ht hi _ 0 [] hs (World.ownsRow_nil _ _ _ _) hx (h _ _ (World.ownsRow_nil _ _ _ _) (Below.refl _ _))
  | some ad =>
    refine wpList_append_own w hgd s x t ho base e i z size bytes ht hi hz hsize hby hzs hsz _ 0 [] hs (World.ownsRow_nil _ _ _ _) ad m c news hx hl (hnews ad rfl) h1 (by omega) (by rw [Nat.zero_add]; exact hbytes) hbase ?_
    intro v' w' h2 h3 _
    rw [Nat.zero_add, List.nil_append] at h2
    exact h v' w' h2 (grown_below h3)
theorem rbyt_nil (w : World) (B : Nat) (A : Option Addr) : RByt w B A 0 [] := ⟨rfl, fun h => by omega⟩
theorem byt_src' {w : World} {B n : Nat} {A : Option Addr} {bs : List UInt8} (h : RByt w B A n bs) : ∀ ad, A = some ad → ∀ (j : Nat) (u : Value), (bcells bs)[j]? = some u → w.cell? (ad.add j) = some u := by
  intro ad hA j u hu
  have hj : j < (bcells bs).length := (List.getElem?_eq_some_iff.1 hu).1
  rw [bcells_len, h.1] at hj
  obtain ⟨b, off, h1, _, _⟩ := h.2 (by omega)
  subst h1
  simp only [Option.some.injEq] at hA
  subst hA
  exact byt_src h (by omega) j u hu
end Go.Proofs.Ytkemcgbedapkcaa

/- Words that name no type of the program, more of them: rows that the call owns, appends at a step of a region that draws, masks of any number, boxes. -/
namespace Go.Proofs.Ytkemcgbedapkcaa
open Go.RowKit
set_option maxHeartbeats 1600000
set_option maxRecDepth 100000
theorem own_apart {w : World} {b1 b2 e1 e2 s1 s2 n1 n2 : Nat} {v1 v2 : Value} {xs ys : List Value} (h1 : w.ownsRow b1 e1 s1 v1 n1 xs) (h2 : w.ownsRow b2 e2 s2 v2 n2 ys) (hne : e1 ≠ e2) : v1.ownBlock = none ∨ v1.ownBlock ≠ v2.ownBlock := by
  rcases h1.2 with ⟨rfl, _⟩ | ⟨g, cap, cur, rfl, _, hg, _⟩
  · exact .inl rfl
  · refine .inr ?_
    rcases h2.2 with ⟨rfl, _⟩ | ⟨g', cap', cur', rfl, _, hg', _⟩
    · simp [Value.ownBlock]
    · simp only [Value.ownBlock, ne_eq, Option.some.injEq]
      rintro rfl
      rw [hg] at hg'
      simp at hg'
      exact hne hg'.2
theorem own_set {w : World} {base : Nat} {e : TypeId} {size : Nat} {v : Value} {n : Nat} {xs : List Value} (h : w.ownsRow base e size v n xs) {a : Addr} (ha : a.block < base) (u : Value) : (w.setCell a u).ownsRow base e size v n xs := ownsRow_setCell_below h ha u
theorem own_mono {w : World} {base base' : Nat} {e : TypeId} {size : Nat} {v : Value} {n : Nat} {xs : List Value} (h : w.ownsRow base e size v n xs) (hb : base' ≤ base) : w.ownsRow base' e size v n xs := by
  refine ⟨h.1, ?_⟩
  rcases h.2 with h1 | ⟨g, cap, cur, h1, h2, h3⟩
  · exact .inl h1
  · exact .inr ⟨g, cap, cur, h1, by omega, h3⟩
/-- 'append(v, x...)', v the call's own, whatever x. -/
theorem wpList_append_any {P : Program} {w : World} {ops : Array Oper} {rest : List Oper} {o : Oper} {a : Act} {Q : Exit → Act → World → Prop} (hgd : o.guard = none) (s x : Operand) (t : TypeId)
    (ho : o.op = .call { callee := .builtin .append, args := #[s, x], argTypes := #[t, t] })
    (base : Nat) (e : TypeId) (i : TypeInfo) (z : Value) (size bytes : Nat) (ht : P.underlying t = some (.slice e)) (hi : P.info? e = some i) (hz : i.zero = some z)
    (hsize : i.size = size) (hby : i.bytes = bytes) (hzs : z.cells.size = size) (hsz : 0 < size)
    (v : Value) (k : Nat) (xs : List Value) (hs : a.eval s = v) (hown : w.ownsRow base e size v k xs) (A : Option Addr) (m c : Nat) (news : List Value) (hx : a.eval x = .slice A m c) (hA : A = none → m = 0 ∧ c = 0)
    (hl : news.length = m * size) (hnews : ∀ ad, A = some ad → ∀ j u, news[j]? = some u → w.cell? (ad.add j) = some u) (h1 : ∀ u ∈ news, u.oneCell' = true)
    (h63 : k + m ≤ maxLen) (hbytes : (k + m) * bytes ≤ 140737488355328) (hbase : base ≤ w.heap.size)
    (h : ∀ v' w', w'.ownsRow base e size v' (k + m) (xs ++ news) → Below base w w' → wpList P ops Q rest (a.put o.dst v') w') : wpList P ops Q (o :: rest) a w := by
  cases A with
  | none =>
    obtain ⟨rfl, rfl⟩ := hA rfl
    have hn0 : news = [] := List.length_eq_zero_iff.1 (by omega)
    subst hn0
    refine wpList_append_own_none hgd s x t ho base e i size ht hi v k xs hs hown hx (h _ _ ?_ (Below.refl _ _))
    simpa using hown
  | some ad =>
    refine wpList_append_own w hgd s x t ho base e i z size bytes ht hi hz hsize hby hzs hsz v k xs hs hown ad m c news hx hl (hnews ad rfl) h1 h63 hbytes hbase ?_
    intro v' w' h2 h3 _
    exact h v' w' h2 (Below.grown (Below.refl _ _) h3 hbase (fun k hk => (hown.lt k hk).1))

theorem i64_mask_any (i : Nat) (hi : i ≤ 62) (m : Int) (hm : m = ((2 ^ i - 1 : Nat) : Int)) (x : Int) : bits .and .i64 x m = x % ((2 ^ i : Nat) : Int) := by
  subst hm
  have hpos : 0 < 2 ^ i := Nat.two_pow_pos i
  have hle : 2 ^ i ≤ 2 ^ 62 := Nat.pow_le_pow_right (by decide) hi
  have hm : (2 ^ i - 1) % 2 ^ IntKind.i64.bits = 2 ^ i - 1 := Nat.mod_eq_of_lt (by have : IntKind.i64.bits = 64 := rfl; rw [this]; omega)
  have hb : IntKind.i64.bits = 64 := rfl
  simp only [bits, BitVec.toNat_and, BitVec.ofInt_natCast, BitVec.toNat_ofNat, hm, BitVec.toNat_ofInt]
  rw [Nat.and_two_pow_sub_one_eq_mod, hb]
  have h1 : (((x % ((2 : Nat) ^ 64 : Nat)).toNat % 2 ^ i : Nat) : Int) = x % ((2 ^ i : Nat) : Int) := by
    rw [Int.natCast_emod, Int.toNat_of_nonneg (Int.emod_nonneg _ (by decide)), Int.emod_emod_of_dvd]
    exact Int.natCast_dvd_natCast.2 (Nat.pow_dvd_pow 2 (by omega))
  rw [h1]
  have h3 := Int.emod_nonneg x (show ((2 ^ i : Nat) : Int) ≠ 0 by omega)
  have h4 := Int.emod_lt_of_pos x (show (0 : Int) < ((2 ^ i : Nat) : Int) by omega)
  rw [IntKind.wrap_i64]
  generalize x % ((2 ^ i : Nat) : Int) = y at *
  omega
section
variable {P : Program} (w : World)
theorem run_append_keeps (base : Nat) (t ty e : TypeId) (i : TypeInfo) (z : Value) (size bytes : Nat) (ht : P.underlying t = some (.slice e)) (hi : P.info? e = some i) (hz : i.zero = some z)
    (hsize : i.size = size) (hby : i.bytes = bytes) (hzs : z.cells.size = size) (hsz : 0 < size)
    (v : Value) (n : Nat) (xs : List Value) (hown : w.ownsRow base e size v n xs)
    (a : Addr) (m c : Nat) (news : List Value) (hl : news.length = m * size) (hnews : ∀ j u, news[j]? = some u → w.cell? (a.add j) = some u) (h1 : ∀ u ∈ news, u.oneCell' = true)
    (hm : 0 < m) (h63 : n + m ≤ maxLen) (hbytes : (n + m) * bytes ≤ 140737488355328) (hbase : base ≤ w.heap.size) :
    ∃ g cap w', (Builtin.append_ #[t, t] ty #[v, .slice (some a) m c]).run P w = .ok (.slice (some ⟨g, 0, none⟩) (n + m) cap) w' ∧ w'.ownsRow base e size (.slice (some ⟨g, 0, none⟩) (n + m) cap) (n + m) (xs ++ news) ∧ w.grownBy w' v.ownBlock ∧
      ∀ k, v.ownBlock = some k → ∀ j u, xs[j]? = some u → w'.cell? ⟨k, j, none⟩ = some u := by
  obtain ⟨g, cap, w', hr, h2, h3, h4, _⟩ := run_append_lies (P := P) w t ty base e i z size bytes ht hi hz hsize hby hzs hsz v n xs hown a m c news hl hnews h1 hm h63 hbytes hbase _ rfl
  refine ⟨g, cap, w', hr, h2, h3, fun k hk j u hj => ?_⟩
  by_cases hgk : g = k
  · subst hgk
    have := h2.cells (g := g) rfl j u (by rw [List.getElem?_append_left (List.getElem?_eq_some_iff.1 hj).1]; exact hj)
    rwa [Go.WideShapes.add_plain, Nat.zero_add] at this
  · have hold := hown.cells (g := k) hk j u hj
    rw [Go.WideShapes.add_plain, Nat.zero_add] at hold
    rcases hown.2 with ⟨rfl, _⟩ | ⟨g0, cap0, cur, rfl, _⟩
    · simp [Value.ownBlock] at hk
    · simp only [Value.ownBlock, Option.some.injEq] at hk
      subst hk
      by_cases hroom : n + m ≤ cap0
      · obtain ⟨w2, hr2, _⟩ := run_append_fits (P := P) w base t ty e i size ht hi hsize g0 n cap0 xs hown a m c news hl hnews h1 hroom
        rw [hr] at hr2
        simp only [Result.ok.injEq, Value.slice.injEq, Option.some.injEq, Addr.mk.injEq] at hr2
        exact absurd hr2.1.1.1 hgk
      · subst hsize
        subst hby
        have hg2 := run_append_grow (P := P) w t ty e i z ht hi hz ⟨g0, 0, none⟩ n cap0 xs hown.1 (hown.cells (g := g0) rfl) a m c news hl hnews (by omega) (by simp only [maxLen] at h63; omega) (growslice_fits (by omega) hbytes)
        rw [hr] at hg2
        simp only [Result.ok.injEq] at hg2
        rw [hg2.2]
        have hlt := World.block_lt_of_cell? w ⟨g0, j, none⟩ hold
        exact (World.cell?_of_block (Below.heap_alloc w.drew _ _ hlt)).trans hold
end
theorem step_append_keeps {P : Program} {w : World} {ops : Array Oper} {o : Oper} {a : Act} {K : Act → World → Prop} {Q : Exit → Act → World → Prop} {E : Prop} (hgd : o.guard = none) (s x : Operand) (t : TypeId)
    (ho : o.op = .call { callee := .builtin .append, args := #[s, x], argTypes := #[t, t] })
    (base : Nat) (e : TypeId) (i : TypeInfo) (z : Value) (size bytes : Nat) (ht : P.underlying t = some (.slice e)) (hi : P.info? e = some i) (hz : i.zero = some z)
    (hsize : i.size = size) (hby : i.bytes = bytes) (hzs : z.cells.size = size) (hsz : 0 < size)
    (v : Value) (n : Nat) (xs : List Value) (hs : a.eval s = v) (hown : w.ownsRow base e size v n xs)
    (ad : Addr) (m c : Nat) (news : List Value) (hx : a.eval x = .slice (some ad) m c) (hl : news.length = m * size) (hnews : ∀ j u, news[j]? = some u → w.cell? (ad.add j) = some u) (h1 : ∀ u ∈ news, u.oneCell' = true)
    (hm : 0 < m) (h63 : n + m ≤ maxLen) (hbytes : (n + m) * bytes ≤ 140737488355328) (hbase : base ≤ w.heap.size)
    (h : ∀ g cap w', w'.ownsRow base e size (.slice (some ⟨g, 0, none⟩) (n + m) cap) (n + m) (xs ++ news) → w.grownBy w' v.ownBlock → (∀ k, v.ownBlock = some k → ∀ j u, xs[j]? = some u → w'.cell? ⟨k, j, none⟩ = some u) → K (a.put o.dst (.slice (some ⟨g, 0, none⟩) (n + m) cap)) w') :
    if Region.wanted o (yielded ops a.tmps) = true then Oper.wp P o a w K Q else E := by
  have hw : Region.wanted o (yielded ops a.tmps) = true := by simp [Region.wanted, hgd]
  rw [if_pos hw]
  obtain ⟨g, cap, w', hr, h2, h3, h4⟩ := run_append_keeps (P := P) w base t o.type e i z size bytes ht hi hz hsize hby hzs hsz v n xs hown ad m c news hl hnews h1 hm h63 hbytes hbase
  unfold Oper.wp execOp
  simp only [ho, resolve, invoke, builtin, Sem.run_bind, Sem.run_pure, Result.andThen_ok, List.map_toArray, List.map_cons, List.map_nil, hs, hx, hr]
  exact h g cap w' h2 h3 h4
/-- 'append([]T(nil), x...)', whatever x, as a step of a region that draws. -/
theorem step_copy {P : Program} {ops : Array Oper} {o : Oper} {a : Act} {w : World} {K : Act → World → Prop} {Q : Exit → Act → World → Prop} {E : Prop} (hgd : o.guard = none) (s x : Operand) (t : TypeId)
    (ho : o.op = .call { callee := .builtin .append, args := #[s, x], argTypes := #[t, t] })
    (base : Nat) (e : TypeId) (i : TypeInfo) (z : Value) (size bytes : Nat) (ht : P.underlying t = some (.slice e)) (hi : P.info? e = some i) (hz : i.zero = some z)
    (hsize : i.size = size) (hby : i.bytes = bytes) (hzs : z.cells.size = size) (hsz : 0 < size)
    (hs : a.eval s = .slice none 0 0) (ad : Addr) (m c : Nat) (news : List Value) (hx : a.eval x = .slice (some ad) m c)
    (hl : news.length = m * size) (hnews : ∀ j u, news[j]? = some u → w.cell? (ad.add j) = some u) (h1 : ∀ u ∈ news, u.oneCell' = true)
    (h63 : m ≤ maxLen) (hbytes : m * bytes ≤ 140737488355328) (hbase : base ≤ w.heap.size)
    (h : ∀ D c1 w', w'.ownsRow base e size (.slice D m c1) m news → w.grownBy w' none → K (a.put o.dst (.slice D m c1)) w') :
    if Region.wanted o (yielded ops a.tmps) = true then Oper.wp P o a w K Q else E := by
  have hw : Region.wanted o (yielded ops a.tmps) = true := by simp [Region.wanted, hgd]
  rw [if_pos hw]
  refine wp_append_own w s x t ho base e i z size bytes ht hi hz hsize hby hzs hsz _ 0 [] hs (World.ownsRow_nil _ _ _ _) ad m c news hx hl hnews h1 (by omega) (by rw [Nat.zero_add]; exact hbytes) hbase ?_
  intro v' w' h2 h3 _
  rw [Nat.zero_add, List.nil_append] at h2
  have hv : ∃ D c1, v' = .slice D m c1 := by
    rcases h2.2 with ⟨rfl, h0⟩ | ⟨g, cap, cur, rfl, _⟩
    · exact ⟨none, 0, by rw [h0]⟩
    · exact ⟨_, _, rfl⟩
  obtain ⟨D, c1, rfl⟩ := hv
  exact h D c1 w' h2 h3
theorem box_set0 {w : World} {B : Nat} {x0 x1 u : Value} {T : TypeId} (h : w.heap[B]? = some (.cells #[x0, x1] T (0, 0))) : (w.setCell ⟨B, 0, none⟩ u).heap[B]? = some (.cells #[u, x1] T (0, 0)) := heap_setCell_same w B 0 _ T u h
theorem box_set1 {w : World} {B : Nat} {x0 x1 u : Value} {T : TypeId} (h : w.heap[B]? = some (.cells #[x0, x1] T (0, 0))) : (w.setCell ⟨B, 1, none⟩ u).heap[B]? = some (.cells #[x0, u] T (0, 0)) := heap_setCell_same w B 1 _ T u h
theorem box_cells {w : World} {B : Nat} {x0 x1 : Value} {T : TypeId} (h : w.heap[B]? = some (.cells #[x0, x1] T (0, 0))) : w.cell? ⟨B, 0, none⟩ = some x0 ∧ w.cell? ⟨B, 1, none⟩ = some x1 ∧ ∀ j, w.frozen? ⟨B, j, none⟩ = false :=
  ⟨by rw [cell_of_row _ _ _ _ _ _ h]; rfl, by rw [cell_of_row _ _ _ _ _ _ h]; rfl, fun j => frozen_of_row _ _ _ _ _ h⟩
theorem box_below {w w' : World} {B k : Nat} {o : Obj} (h : w.heap[B]? = some o) (hb : Below k w w') (hk : B < k) : w'.heap[B]? = some o := (hb.block B hk).trans h
theorem box_kept {wr w4 : World} {B e s n : Nat} {v : Value} {xs : List Value} {cs : Array Value} {t : TypeId} {o2 : Obj} (hown : wr.ownsRow B e s v n xs) (hg : ((wr.alloc (.cells cs t)).alloc o2).grownBy w4 v.ownBlock) (j : Nat) (u : Value) (h : cs[j]? = some u) : w4.cell? ⟨wr.heap.size, j, none⟩ = some u := by
  refine hg.cell ?_ ?_
  · have h1 : ((wr.alloc (.cells cs t)).alloc o2).cell? ⟨wr.heap.size, j, none⟩ = (wr.alloc (.cells cs t)).cell? ⟨wr.heap.size, j, none⟩ := World.cell?_of_block (Below.heap_alloc _ _ _ (by simp))
    rw [h1, cell_of_row _ _ _ _ _ _ (heap_alloc_new wr _)]
    exact h
  · intro hc
    have := (hown.lt wr.heap.size hc.symm).2
    omega
/-- 'x[l:]' of a slice that is not nil: where it begins, said once for both ways. -/
theorem run_from {P : Program} {t e : TypeId} {i : TypeInfo} {size : Nat} (ht : P.underlying t = some (.slice e)) (hi : P.info? e = some i) (hs : i.size = size) (b off len cap l : Nat) (x : Int) (hx : x = (l : Int)) (h : l ≤ len) :
    ∃ z, (cap = l ∨ z = off + l * size) ∧ ∀ W : World, (Instr.slice t (.slice (some ⟨b, off, none⟩) len cap) (some (.int .i64 x)) none none).run P W = .ok (.slice (some ⟨b, z, none⟩) (len - l) (cap - l)) W := by
  subst hx
  have he : P.elem t = e := by simp [Program.elem, ht]
  have ht' : P.underlying t = some (.slice (P.elem t)) := by rw [he]; exact ht
  have hr : ∀ W : World, (Instr.slice t (.slice (some ⟨b, off, none⟩) len cap) (some (.int .i64 (l : Int))) none none).run P W = .ok (.slice (if cap = l then some ⟨b, off, none⟩ else some ⟨b, off + l * size, none⟩) (len - l) (cap - l)) W := by
    intro W
    have h2 := run_slice_l (P := P) (w := W) t (some ⟨b, off, none⟩) len cap ht' .i64 (l : Int) (by omega) (by omega)
    rw [h2, he]
    simp [sizeOf, typeInfo, hi, hs, sliced, Go.WideShapes.add_plain, go_sem]
  by_cases hc : cap = l
  · exact ⟨off, .inl hc, fun W => by rw [hr W, if_pos hc]⟩
  · exact ⟨off + l * size, .inr rfl, fun W => by rw [hr W, if_neg hc]⟩
/-- An append to a row of the call's own, of whatever length, as a step of a region that draws. -/
theorem step_append_some {P : Program} {w : World} {ops : Array Oper} {o : Oper} {a : Act} {K : Act → World → Prop} {Q : Exit → Act → World → Prop} {E : Prop} (hgd : o.guard = none) (s x : Operand) (t : TypeId)
    (ho : o.op = .call { callee := .builtin .append, args := #[s, x], argTypes := #[t, t] })
    (base : Nat) (e : TypeId) (i : TypeInfo) (z : Value) (size bytes : Nat) (ht : P.underlying t = some (.slice e)) (hi : P.info? e = some i) (hz : i.zero = some z)
    (hsize : i.size = size) (hby : i.bytes = bytes) (hzs : z.cells.size = size) (hsz : 0 < size)
    (v : Value) (n : Nat) (xs : List Value) (hs : a.eval s = v) (hown : w.ownsRow base e size v n xs)
    (ad : Addr) (m c : Nat) (news : List Value) (hx : a.eval x = .slice (some ad) m c) (hl : news.length = m * size) (hnews : ∀ j u, news[j]? = some u → w.cell? (ad.add j) = some u) (h1 : ∀ u ∈ news, u.oneCell' = true)
    (h63 : n + m ≤ maxLen) (hbytes : (n + m) * bytes ≤ 140737488355328) (hbase : base ≤ w.heap.size)
    (h : ∀ D c1 w', w'.ownsRow base e size (.slice D (n + m) c1) (n + m) (xs ++ news) → w.grownBy w' v.ownBlock → K (a.put o.dst (.slice D (n + m) c1)) w') :
    if Region.wanted o (yielded ops a.tmps) = true then Oper.wp P o a w K Q else E := by
  have hw : Region.wanted o (yielded ops a.tmps) = true := by simp [Region.wanted, hgd]
  rw [if_pos hw]
  refine wp_append_own w s x t ho base e i z size bytes ht hi hz hsize hby hzs hsz v n xs hs hown ad m c news hx hl hnews h1 h63 hbytes hbase ?_
  intro v' w' h2 h3 _
  have hv : ∃ D c1, v' = .slice D (n + m) c1 := by
    rcases h2.2 with ⟨rfl, h0⟩ | ⟨g, cap, cur, rfl, _⟩
    · exact ⟨none, 0, by rw [h0]⟩
    · exact ⟨_, _, rfl⟩
  obtain ⟨D, c1, rfl⟩ := hv
  exact h D c1 w' h2 h3
end Go.Proofs.Ytkemcgbedapkcaa

/- Words without a type of the program, continued: an argument's range. -/
namespace Go.Proofs.Ytkemcgbedapkcaa
open Go.RowKit
theorem wf_i64 {a : Int} (h : (Lit.int .i64 a).wf = true) : -9223372036854775808 ≤ a ∧ a ≤ 9223372036854775807 := by
  simp only [Lit.wf, Bool.and_eq_true, decide_eq_true_eq] at h
  have h1 : IntKind.i64.min = -9223372036854775808 := rfl
  have h2 : IntKind.i64.max = 9223372036854775807 := rfl
  rw [h1, h2] at h
  exact h
end Go.Proofs.Ytkemcgbedapkcaa

/- 'append([]T(nil), x...)' as a step of a region that draws, x nil or not. -/
namespace Go.Proofs.Ytkemcgbedapkcaa
open Go.RowKit
theorem step_copy_any {P : Program} {ops : Array Oper} {o : Oper} {a : Act} {w : World} {K : Act → World → Prop} {Q : Exit → Act → World → Prop} {E : Prop} (hgd : o.guard = none) (s x : Operand) (t : TypeId)
    (ho : o.op = .call { callee := .builtin .append, args := #[s, x], argTypes := #[t, t] })
    (base : Nat) (e : TypeId) (i : TypeInfo) (z : Value) (size bytes : Nat) (ht : P.underlying t = some (.slice e)) (hi : P.info? e = some i) (hz : i.zero = some z)
    (hsize : i.size = size) (hby : i.bytes = bytes) (hzs : z.cells.size = size) (hsz : 0 < size)
    (hs : a.eval s = .slice none 0 0) (A : Option Addr) (m c : Nat) (news : List Value) (hx : a.eval x = .slice A m c) (hA : A = none → m = 0 ∧ c = 0)
    (hl : news.length = m * size) (hnews : ∀ ad, A = some ad → ∀ j u, news[j]? = some u → w.cell? (ad.add j) = some u) (h1 : ∀ u ∈ news, u.oneCell' = true)
    (h63 : m ≤ maxLen) (hbytes : m * bytes ≤ 140737488355328) (hbase : base ≤ w.heap.size)
    (h : ∀ D c1 w', w'.ownsRow base e size (.slice D m c1) m news → Below w.heap.size w w' → K (a.put o.dst (.slice D m c1)) w') :
    if Region.wanted o (yielded ops a.tmps) = true then Oper.wp P o a w K Q else E := by
  cases A with
  | none =>
    obtain ⟨rfl, rfl⟩ := hA rfl
    have hn0 : news = [] := List.length_eq_zero_iff.1 (by omega)
    subst hn0
    have hw : Region.wanted o (yielded ops a.tmps) = true := by simp [Region.wanted, hgd]
    rw [if_pos hw]
    have hrun := run_append_owned_none (P := P) (w := w) base t o.type e i size ht hi (.slice none 0 0) 0 [] (World.ownsRow_nil _ _ _ _)
    unfold Oper.wp
    simp [execOp, ho, resolve, invoke, builtin, hs, hx, hrun, Result.andThen]
    exact h none 0 w (World.ownsRow_nil _ _ _ _) (Below.refl _ _)
  | some ad =>
    exact step_copy hgd s x t ho base e i z size bytes ht hi hz hsize hby hzs hsz hs ad m c news hx hl (hnews ad rfl) h1 h63 hbytes hbase (fun D c1 w' h2 h3 => h D c1 w' h2 (grown_below h3))
end Go.Proofs.Ytkemcgbedapkcaa

/- Graphs: a link as data, what a slice of links reads as, what the chapter asks of a graph, the argument opened. -/
namespace Go.Proofs.Ytkemcgbedapkcaa
open Go.RowKit Go.ChangeShapes Go.WideShapes Go.Deep
set_option maxRecDepth 100000

section
variable {H : Type} {enc : TypeId × Value → H} {P : Program} {w : World} {base : Nat} {spare : Nat → Bool} {held : Bool}
theorem open_slice_fields {t e : TypeId} {fs : Array Field} {fuel : Nat} {cs : List Value} {x : DataW H × List MemPlace} (ht : P.underlying t = some (.slice e)) (he : P.underlying e = some (.struct fs))
    (hone : oneCellFields P fs = true) (hC : P.cellsOf e = fs.size) (h : DataW.trod enc P w base spare held fuel t cs = some x) :
    cs = [.slice none 0 0] ∨
    ∃ (a : Addr) (len cap m : Nat), cs = [.slice (some a) len cap] ∧ len ≤ cap ∧ cap ≤ maxLen ∧ len ≤ m ∧
      ∀ i, i < m → ∃ n : Nat, ∀ (j : Nat) (f : Field), fs[j]? = some f → ∃ (v : Value) (y : DataW H × List MemPlace), w.cell? (a.add (i * fs.size + j)) = some v ∧ DataW.trod enc P w base spare held n f.type [v] = some y := by
  rcases open_slice ht h with h0 | ⟨a, len, cap, m, n, D, Pl, hcs, hb, hl, hm, hmm, hx, hi⟩
  · exact .inl h0.1
  · refine .inr ⟨a, len, cap, m, hcs, hl, hm, by subst hmm; split <;> omega, fun i him => ?_⟩
    obtain ⟨cs', hc, ht'⟩ := hi i him
    rw [hC] at hc
    obtain ⟨ys, n', hn', hy, hlen, hyl, hf⟩ := DataW.trod_struct he ht'
    obtain ⟨_, hcl, hat⟩ := World.cells?_some hc
    refine ⟨n', fun j f hj => ?_⟩
    obtain ⟨ho, hk⟩ := hone_of hone j f hj
    have hjl : j < fs.size := (Array.getElem?_eq_some_iff.1 hj).1
    have hcell := hat j hjl
    have hv : cs'[j]? = some (cs'[j]'(by omega)) := List.getElem?_eq_getElem (by omega)
    have h1 := hf j f hj
    rw [ho, hk] at h1
    have hone' : (cs'.drop j).take 1 = [cs'[j]'(by omega)] := by
      rw [List.drop_eq_getElem_cons (by omega)]
      rfl
    rw [hone'] at h1
    have hys : ys[j]? = some (ys[j]'(by omega)) := List.getElem?_eq_getElem (by omega)
    refine ⟨_, _, ?_, h1.trans hys⟩
    rw [← Go.Deep.add_add, hcell, hv]
end
theorem cell_lt {w : World} {a : Addr} {v : Value} (h : w.cell? a = some v) : a.block < w.heap.size := by
  rcases Nat.lt_or_ge a.block w.heap.size with h1 | h1
  · exact h1
  · simp [World.cell?, Array.getElem?_eq_none h1] at h
structure Lnk where
  a : Int
  b : Int
  m : Int
  c : Int
instance : Inhabited Lnk := ⟨⟨0, 0, 0, 0⟩⟩
/-- A slice value with address A and length n reads as the rows l below block B. -/
def RLnk (w : World) (B : Nat) (A : Option Addr) (n : Nat) (l : List Lnk) : Prop :=
  l.length = n ∧ (0 < n → ∃ b off, A = some ⟨b, off, none⟩ ∧ b < B ∧ ∀ (i : Nat) (e : Lnk), l[i]? = some e → w.cell? ⟨b, off + i * 4, none⟩ = some (.int .i64 e.a) ∧ w.cell? ⟨b, off + i * 4 + 1, none⟩ = some (.int .i64 e.b) ∧ w.cell? ⟨b, off + i * 4 + 2, none⟩ = some (.int .i64 e.m) ∧ w.cell? ⟨b, off + i * 4 + 3, none⟩ = some (.int .i64 e.c))
theorem RLnk.below {w w' : World} {B n : Nat} {A : Option Addr} {l : List Lnk} (h : RLnk w B A n l) (hb : Below B w w') : RLnk w' B A n l := by
  refine ⟨h.1, fun hn => ?_⟩
  obtain ⟨b, off, hA, hB, hc⟩ := h.2 hn
  refine ⟨b, off, hA, hB, fun i e he => ?_⟩
  obtain ⟨h0, h1, h2, h3⟩ := hc i e he
  exact ⟨(hb.cell (p := ⟨b, _, none⟩) hB).trans h0, (hb.cell (p := ⟨b, _, none⟩) hB).trans h1, (hb.cell (p := ⟨b, _, none⟩) hB).trans h2, (hb.cell (p := ⟨b, _, none⟩) hB).trans h3⟩
theorem RLnk.more {w : World} {B B' n : Nat} {A : Option Addr} {l : List Lnk} (h : RLnk w B A n l) (hB : B ≤ B') : RLnk w B' A n l := by
  refine ⟨h.1, fun hn => ?_⟩
  obtain ⟨b, off, hA, hb, hc⟩ := h.2 hn
  exact ⟨b, off, hA, by omega, hc⟩
theorem RLnk.on {a b : World} {A : Option Addr} {n : Nat} {l : List Lnk} (h : RLnk a a.heap.size A n l) (hb : Below a.heap.size a b) : RLnk b b.heap.size A n l := (h.below hb).more hb.size
theorem open_lnks {H : Type} {enc : TypeId × Value → H} {w : World} {A : Option Addr} {len cap : Nat} {d : DataW H} {p : List MemPlace}
    (h : DataW.Trod enc Try.prog w 0 (fun _ => true) true 22 (.slice A len cap) d p) : ∃ l : List Lnk, RLnk w w.heap.size A len l ∧ len ≤ maxLen ∧ (A = none → len = 0 ∧ cap = 0) ∧ len ≤ cap := by
  obtain ⟨fuel, hf⟩ := h
  rcases open_slice_fields Try.underlying22 Try.underlying49 (by kernel_rfl) (by kernel_rfl) hf with h0 | ⟨a, len', cap', m, hcs, hl, hm, hlm, hi⟩
  · simp [Value.cells] at h0
    obtain ⟨rfl, rfl, rfl⟩ := h0
    exact ⟨[], ⟨rfl, fun h => by omega⟩, by unfold maxLen; omega, fun _ => ⟨rfl, rfl⟩, Nat.le_refl _⟩
  · simp [Value.cells] at hcs
    obtain ⟨rfl, rfl, rfl⟩ := hcs
    have hx : ∀ i, i < len → ∃ e : Lnk, w.cell? (a.add (i * 4 + 0)) = some (.int .i64 e.a) ∧ w.cell? (a.add (i * 4 + 1)) = some (.int .i64 e.b) ∧ w.cell? (a.add (i * 4 + 2)) = some (.int .i64 e.m) ∧ w.cell? (a.add (i * 4 + 3)) = some (.int .i64 e.c) := by
      intro i hi'
      obtain ⟨n, hf⟩ := hi i (by omega)
      obtain ⟨v0, y0, g0, t0⟩ := hf 0 _ rfl
      obtain ⟨v1, y1, g1, t1⟩ := hf 1 _ rfl
      obtain ⟨v2, y2, g2, t2⟩ := hf 2 _ rfl
      obtain ⟨v3, y3, g3, t3⟩ := hf 3 _ rfl
      obtain ⟨n0, e0, _, _⟩ := DataW.trod_int Try.underlying3 t0
      obtain ⟨n1, e1, _, _⟩ := DataW.trod_int Try.underlying3 t1
      obtain ⟨n2, e2, _, _⟩ := DataW.trod_int Try.underlying3 t2
      obtain ⟨n3, e3, _, _⟩ := DataW.trod_int Try.underlying3 t3
      simp only [List.cons.injEq, and_true] at e0 e1 e2 e3
      subst e0 e1 e2 e3
      exact ⟨⟨n0, n1, n2, n3⟩, g0, g1, g2, g3⟩
    obtain ⟨E, hE⟩ := choose_lt hx
    refine ⟨(List.range len).map E, ⟨by simp, fun hn => ?_⟩, by omega, fun h => (by cases h), hl⟩
    have hsp : a.spot = none := by
      have := World.cell?_spot (hE 0 hn).1
      simpa [Addr.add] using this
    obtain ⟨b, off, spot⟩ := a
    subst hsp
    have hb := cell_lt (hE 0 hn).1
    rw [Go.WideShapes.add_plain] at hb
    refine ⟨b, off, rfl, hb, fun i e he => ?_⟩
    simp only [List.getElem?_map, Option.map_eq_some_iff] at he
    obtain ⟨j, hj, rfl⟩ := he
    have hj2 : i < len := by
      have := (List.getElem?_eq_some_iff.1 hj).1
      simpa using this
    rw [List.getElem?_range hj2] at hj
    injection hj with hj
    subst hj
    obtain ⟨g0, g1, g2, g3⟩ := hE i hj2
    simp only [Go.WideShapes.add_plain] at g0 g1 g2 g3
    exact ⟨g0, by rw [Nat.add_assoc]; exact g1, by rw [Nat.add_assoc]; exact g2, by rw [Nat.add_assoc]; exact g3⟩
theorem open_graph {H : Type} {enc : TypeId × Value → H} {w : World} {r : Reach} {b0 : Nat} {v : Value} {d : DataW H} {p : List MemPlace} (hv : Value.okWide Try.prog w r b0 24 v)
    (h : DataW.Trod enc Try.prog w 0 (fun _ => true) true 24 v d p) : ∃ (nd : Int) (A : Option Addr) (n c : Nat) (l : List Lnk), v = .agg #[.int .i64 nd, .slice A n c] ∧ RLnk w w.heap.size A n l ∧ n ≤ maxLen ∧ (A = none → n = 0 ∧ c = 0) ∧ n ≤ c ∧ (Lit.int .i64 nd).wf = true := by
  obtain ⟨v0, v1, y0, y1, k, rfl, _, _, g0, g1⟩ := Go.Joins.open_agg2 Try.underlying24 (by kernel_rfl) (by kernel_rfl) hv h
  obtain ⟨nd, e0, _, hwf⟩ := DataW.trod_int Try.underlying3 g0
  simp only [List.cons.injEq, and_true] at e0
  subst e0
  rcases open_slice Try.underlying22 g1 with ⟨h0, _⟩ | ⟨a, len, cap, _, _, _, _, h0, _⟩
  · simp only [List.cons.injEq, and_true] at h0
    subst h0
    obtain ⟨l, hl⟩ := open_lnks (d := y1.1) (p := y1.2) ⟨k, g1⟩
    exact ⟨nd, none, 0, 0, l, rfl, hl.1, hl.2.1, hl.2.2.1, hl.2.2.2, hwf⟩
  · simp only [List.cons.injEq, and_true] at h0
    subst h0
    obtain ⟨l, hl⟩ := open_lnks (d := y1.1) (p := y1.2) ⟨k, g1⟩
    exact ⟨nd, _, _, _, l, rfl, hl.1, hl.2.1, hl.2.2.1, hl.2.2.2, hwf⟩
/-- What is wrong with a link (0: nothing). -/
def lnkErr (nd : Int) (x : Lnk) : Int :=
  if 0 ≤ x.a ∧ x.a < nd ∧ 0 ≤ x.b ∧ x.b < nd ∧ x.a ≠ x.b then (if 1 ≤ x.m ∧ x.m ≤ 16777216 ∧ 0 ≤ x.c ∧ x.c ≤ 62 then 0 else 1) else 4
/-- The first link that is wrong, from number i on. -/
def chk (nd : Int) : List Lnk → Nat → Int × Int
  | [], _ => (-1, 0)
  | x :: r, i => if lnkErr nd x = 0 then chk nd r (i + 1) else ((i : Int), lnkErr nd x)
def checkS (nd : Int) (l : List Lnk) : Int × Int :=
  if 120 < l.length then (-1, 6) else if nd < 1 ∨ 40 < nd then (-1, 1) else chk nd l 0
def endsS (l : List Lnk) (e : Int) : Int × Int × Bool :=
  if e < 0 then (0, 0, false) else
  match l[e.toNat / 2]? with
  | none => (0, 0, false)
  | some x => if e % 2 = 0 then (x.a, x.b, true) else (x.b, x.a, true)
def outS (l : List Lnk) (node : Int) (k : Nat) : List Int := ((List.range k).map (fun (i : Nat) => (i : Int))).filter (fun e => (endsS l e).1 == node)
def backS (e : Int) : Int := if e < 0 then -1 else if e % 2 = 0 then e + 1 else e - 1
theorem chk_step {nd : Int} {l : List Lnk} {i : Nat} {x : Lnk} (h : l[i]? = some x) : chk nd (l.drop i) i = if lnkErr nd x = 0 then chk nd (l.drop (i + 1)) (i + 1) else ((i : Int), lnkErr nd x) := by
  obtain ⟨hi, hx⟩ := List.getElem?_eq_some_iff.1 h
  rw [List.drop_eq_getElem_cons hi, hx]
  rfl
theorem outS_succ (l : List Lnk) (node : Int) (k : Nat) : outS l node (k + 1) = outS l node k ++ (if (endsS l k).1 = node then [(k : Int)] else []) := by
  unfold outS
  rw [List.range_succ, List.map_append, List.filter_append]
  by_cases h : (endsS l k).1 = node <;> simp [h]
theorem outS_len (l : List Lnk) (node : Int) (k : Nat) : (outS l node k).length ≤ k := by
  unfold outS
  exact Nat.le_trans (List.length_filter_le _ _) (by simp)
def icells (l : List Int) : List Value := l.map fun x => .int .i64 x
theorem icells_app (a b : List Int) : icells (a ++ b) = icells a ++ icells b := List.map_append
theorem icells_len (a : List Int) : (icells a).length = a.length := List.length_map _
theorem icells_one (l : List Int) : ∀ u ∈ icells l, u.oneCell' = true := by
  intro u hu
  simp only [icells, List.mem_map] at hu
  obtain ⟨b, _, rfl⟩ := hu
  rfl
/-- A slice value reads as the numbers l below block B. -/
def RInt (w : World) (B : Nat) (A : Option Addr) (n : Nat) (l : List Int) : Prop :=
  l.length = n ∧ (0 < n → ∃ b off, A = some ⟨b, off, none⟩ ∧ b < B ∧ ∀ (i : Nat) (x : Int), l[i]? = some x → w.cell? ⟨b, off + i, none⟩ = some (.int .i64 x))
theorem RInt.below {w w' : World} {B n : Nat} {A : Option Addr} {l : List Int} (h : RInt w B A n l) (hb : Below B w w') : RInt w' B A n l := by
  refine ⟨h.1, fun hn => ?_⟩
  obtain ⟨b, off, hA, hB, hc⟩ := h.2 hn
  exact ⟨b, off, hA, hB, fun i e he => (hb.cell (p := ⟨b, _, none⟩) hB).trans (hc i e he)⟩
theorem RInt.more {w : World} {B B' n : Nat} {A : Option Addr} {l : List Int} (h : RInt w B A n l) (hB : B ≤ B') : RInt w B' A n l := by
  refine ⟨h.1, fun hn => ?_⟩
  obtain ⟨b, off, hA, hb, hc⟩ := h.2 hn
  exact ⟨b, off, hA, by omega, hc⟩
theorem own_ints {w : World} {base m : Nat} {v : Value} {l : List Int} (h : w.ownsRow base 3 1 v m (icells l)) (hl : l.length = m) : ∃ A cap, v = .slice A m cap ∧ m ≤ cap ∧ RInt w w.heap.size A m l := by
  subst hl
  rcases Nat.eq_zero_or_pos l.length with h0 | h0
  · rcases h.2 with ⟨rfl, h1⟩ | ⟨g, cap, cur, rfl, _, _, h2, _⟩
    · exact ⟨none, 0, by rw [h0], by omega, rfl, fun h => by omega⟩
    · exact ⟨_, cap, rfl, by omega, rfl, fun h => by omega⟩
  · rcases h.2 with ⟨_, h1⟩ | ⟨g, cap, cur, rfl, _, hg, h2, _⟩
    · omega
    refine ⟨_, cap, rfl, h2, rfl, fun _ => ⟨g, 0, rfl, ?_, fun i e he => ?_⟩⟩
    · rcases Nat.lt_or_ge g w.heap.size with hlt | hge
      · exact hlt
      · rw [Array.getElem?_eq_none hge] at hg; cases hg
    have k1 := h.cells (g := g) rfl i (.int .i64 e) (by simp [icells, he])
    rw [Go.WideShapes.add_plain] at k1
    exact k1
end Go.Proofs.Ytkemcgbedapkcaa

/- Graphs: plain lemmas, rows of links, of ints, of bools that a call made. -/
namespace Go.Proofs.Ytkemcgbedapkcaa
open Go.RowKit
set_option maxHeartbeats 6400000
set_option maxRecDepth 100000
theorem endsS_none {l : List Lnk} {e : Nat} (h : l.length ≤ e / 2) : endsS l e = (0, 0, false) := by
  unfold endsS
  rw [if_neg (by omega), show (Int.toNat (e : Int)) = e by omega, List.getElem?_eq_none h]
theorem endsS_some {l : List Lnk} {e : Nat} {x : Lnk} (h : l[e / 2]? = some x) : endsS l e = if e % 2 = 0 then (x.a, x.b, true) else (x.b, x.a, true) := by
  unfold endsS
  rw [if_neg (by omega), show (Int.toNat (e : Int)) = e by omega, h]
  simp only
  by_cases h2 : e % 2 = 0
  · rw [if_pos h2, if_pos (by omega)]
  · rw [if_neg h2, if_neg (by omega)]
theorem nat_xor_one (e : Nat) : e ^^^ 1 = if e % 2 = 0 then e + 1 else e - 1 := by
  have h1 : (e ^^^ 1) / 2 = e / 2 := by rw [Nat.xor_div_two]; simp
  have h2 : (e ^^^ 1) % 2 = 1 ↔ ¬(e % 2 = 1 ↔ 1 % 2 = 1) := Nat.xor_mod_two_eq_one
  split <;> omega
theorem xor_one (e : Nat) (h : e < 9223372036854775808) : bits .xor .i64 (e : Int) 1 = if e % 2 = 0 then (e : Int) + 1 else (e : Int) - 1 := by
  have hx : e ^^^ 1 < 2 ^ 63 := Nat.xor_lt_two_pow (by omega) (by omega)
  have h1 : bits .xor .i64 (e : Int) ((1 : Nat) : Int) = ((e ^^^ 1 : Nat) : Int) := by
    show IntKind.i64.wrap ((BitVec.ofInt 64 (e : Int) ^^^ BitVec.ofInt 64 ((1 : Nat) : Int)).toNat : Int) = _
    rw [BitVec.toNat_xor, ofInt_u64 e (by omega), ofInt_u64 1 (by omega), IntKind.wrap_i64]
    omega
  refine h1.trans ?_
  rw [nat_xor_one]
  split <;> omega
theorem below_drewN {B n : Nat} {a w : World} (h : Below B a w) : Below B a (w.drewN n) := ⟨h.os, h.tape, h.output, h.size, h.block⟩
theorem checkS_ok {nd : Int} {l : List Lnk} (h : (checkS nd l).2 = 0) : l.length ≤ 120 ∧ 1 ≤ nd ∧ nd ≤ 40 ∧ (chk nd l 0).2 = 0 := by
  unfold checkS at h
  split at h
  · simp at h
  · split at h
    · simp at h
    · exact ⟨by omega, by omega, by omega, h⟩
theorem ways_facts {l : List Lnk} {k : Nat} (h : k < 2 * l.length) : ∃ (a b : Int) (r : Nat), endsS l (k : Int) = (a, b, true) ∧ endsS l (r : Int) = (b, a, true) ∧ backS (k : Int) = (r : Int) ∧ backS (r : Int) = (k : Int) ∧ r / 2 = k / 2 := by
  obtain ⟨x, hx⟩ : ∃ x, l[k / 2]? = some x := ⟨l[k / 2]'(by omega), List.getElem?_eq_getElem _⟩
  have h1 := endsS_some hx
  rcases Nat.mod_two_eq_zero_or_one k with hm | hm
  · have hq : (k + 1) / 2 = k / 2 := by omega
    have h2 := endsS_some (e := k + 1) (hq ▸ hx)
    rw [if_pos hm] at h1
    rw [if_neg (by omega)] at h2
    refine ⟨_, _, k + 1, h1, h2, ?_, ?_, hq⟩
    · unfold backS; rw [if_neg (by omega), if_pos (by omega)]; omega
    · unfold backS; rw [if_neg (by omega), if_neg (by omega)]; omega
  · obtain ⟨j, rfl⟩ : ∃ j, k = j + 1 := ⟨k - 1, by omega⟩
    have hq : j / 2 = (j + 1) / 2 := by omega
    have h2 := endsS_some (e := j) (by rw [hq]; exact hx)
    rw [if_neg (by omega)] at h1
    rw [if_pos (by omega)] at h2
    refine ⟨_, _, j, h1, h2, ?_, ?_, hq⟩
    · unfold backS; rw [if_neg (by omega), if_neg (by omega)]; omega
    · unfold backS; rw [if_neg (by omega), if_pos (by omega)]; omega
theorem mem_outS {l : List Lnk} {node : Int} {m : Nat} {x : Int} : x ∈ outS l node m ↔ ∃ i : Nat, i < m ∧ x = (i : Int) ∧ (endsS l (i : Int)).1 = node := by
  unfold outS
  simp only [List.mem_filter, List.mem_map, List.mem_range, beq_iff_eq]
  constructor
  · rintro ⟨⟨i, hi, rfl⟩, h⟩; exact ⟨i, hi, rfl, h⟩
  · rintro ⟨i, hi, rfl, h⟩; exact ⟨⟨i, hi, rfl⟩, h⟩
theorem mem_take_succ {L : List Int} {j : Nat} {x k : Int} (h : L[j]? = some x) : k ∈ L.take (j + 1) ↔ k ∈ L.take j ∨ x = k := by
  obtain ⟨hj, hx⟩ := List.getElem?_eq_some_iff.1 h
  rw [List.take_succ_eq_append_getElem hj, List.mem_append, hx]
  simp [eq_comm]
theorem not_mem_step {p q r : Prop} (h : p ↔ q ∨ r) (hq : false = true ↔ q) (hr : ¬r) : false = true ↔ p := by
  rw [h]
  constructor
  · intro h; cases h
  · rintro (h | h)
    · exact hq.2 h
    · exact absurd h hr
theorem rlnk_new (w : World) (x : Lnk) : RLnk (w.alloc (.cells #[.int .i64 x.a, .int .i64 x.b, .int .i64 x.m, .int .i64 x.c] 49)) (w.heap.size + 1) (some ⟨w.heap.size, 0, none⟩) 1 [x] := by
  refine ⟨rfl, fun _ => ⟨w.heap.size, 0, rfl, by omega, fun i e he => ?_⟩⟩
  have hi : i = 0 := by
    have := (List.getElem?_eq_some_iff.1 he).1
    simp at this; omega
  subst hi
  simp at he
  subst he
  have h := heap_alloc_new w (.cells #[.int .i64 x.a, .int .i64 x.b, .int .i64 x.m, .int .i64 x.c] 49)
  refine ⟨?_, ?_, ?_, ?_⟩ <;> (rw [cell_of_row _ _ _ _ _ _ h]; rfl)
theorem rlnk_block {w : World} {b : Nat} {x : Lnk} (h : w.heap[b]? = some (.cells #[.int .i64 x.a, .int .i64 x.b, .int .i64 x.m, .int .i64 x.c] 49 (0, 0))) : RLnk w w.heap.size (some ⟨b, 0, none⟩) 1 [x] := by
  have hlt : b < w.heap.size := by
    rcases Nat.lt_or_ge b w.heap.size with h1 | h1
    · exact h1
    · rw [Array.getElem?_eq_none h1] at h; cases h
  refine ⟨rfl, fun _ => ⟨b, 0, rfl, hlt, fun i e he => ?_⟩⟩
  have hi : i = 0 := by
    have := (List.getElem?_eq_some_iff.1 he).1
    simp at this; omega
  subst hi
  simp at he
  subst he
  refine ⟨?_, ?_, ?_, ?_⟩ <;> (rw [cell_of_row _ _ _ _ _ _ h]; rfl)
theorem size_alloc_eq (w : World) (o : Obj) : (w.alloc o).heap.size = w.heap.size + 1 := by simp
theorem int_row (x : Int) : #[Value.int .i64 x] = (icells [x]).toArray := rfl
theorem RInt.on {a b : World} {A : Option Addr} {n : Nat} {l : List Int} (h : RInt a a.heap.size A n l) (hb : Below a.heap.size a b) : RInt b b.heap.size A n l := (h.below hb).more hb.size
theorem own_shape {w : World} {base e size n : Nat} {v : Value} {xs : List Value} (h : w.ownsRow base e size v n xs) : ∃ A c, v = .slice A n c := by
  rcases h.2 with ⟨rfl, rfl⟩ | ⟨g, cap, cur, rfl, _⟩
  · exact ⟨_, _, rfl⟩
  · exact ⟨_, _, rfl⟩
theorem own_form {w : World} {base e size n : Nat} {v : Value} {xs : List Value} (h : w.ownsRow base e size v n xs) : ∃ A c, v = .slice A n c := by
  rcases h.2 with ⟨rfl, rfl⟩ | ⟨g, cap, cur, rfl, _⟩
  · exact ⟨_, _, rfl⟩
  · exact ⟨_, _, rfl⟩
theorem own_ri {w : World} {base m c : Nat} {A : Option Addr} {l : List Int} (h : w.ownsRow base 3 1 (.slice A m c) m (icells l)) (hl : l.length = m) : RInt w w.heap.size A m l := by
  obtain ⟨A', cap', hv, _, hr⟩ := own_ints h hl
  simp only [Value.slice.injEq] at hv
  obtain ⟨rfl, _, _⟩ := hv
  exact hr
def lcells (l : List Lnk) : List Value := l.flatMap fun x => [.int .i64 x.a, .int .i64 x.b, .int .i64 x.m, .int .i64 x.c]
theorem lcells_app (a b : List Lnk) : lcells (a ++ b) = lcells a ++ lcells b := List.flatMap_append
theorem lcells_one (l : List Lnk) : ∀ u ∈ lcells l, u.oneCell' = true := by
  intro u hu
  simp only [lcells, List.mem_flatMap] at hu
  obtain ⟨e, _, hu⟩ := hu
  simp at hu
  rcases hu with rfl | rfl | rfl | rfl <;> rfl
theorem lcells_at {l : List Lnk} {i : Nat} {e : Lnk} (h : l[i]? = some e) : (lcells l)[i * 4]? = some (.int .i64 e.a) ∧ (lcells l)[i * 4 + 1]? = some (.int .i64 e.b) ∧ (lcells l)[i * 4 + 2]? = some (.int .i64 e.m) ∧ (lcells l)[i * 4 + 3]? = some (.int .i64 e.c) := by
  induction l generalizing i with
  | nil => simp at h
  | cons a r ih =>
    simp only [lcells, List.flatMap_cons]
    cases i with
    | zero => simp at h; subst h; simp
    | succ i =>
      have := ih (i := i) (by simpa using h)
      rw [List.getElem?_append_right (by simp; omega), List.getElem?_append_right (by simp; omega), List.getElem?_append_right (by simp; omega), List.getElem?_append_right (by simp; omega)]
      have hl : [Value.int .i64 a.a, .int .i64 a.b, .int .i64 a.m, .int .i64 a.c].length = 4 := rfl
      rw [hl, show (i + 1) * 4 - 4 = i * 4 by omega, show (i + 1) * 4 + 1 - 4 = i * 4 + 1 by omega, show (i + 1) * 4 + 2 - 4 = i * 4 + 2 by omega, show (i + 1) * 4 + 3 - 4 = i * 4 + 3 by omega]
      exact this
theorem own_lnks {w : World} {base m : Nat} {v : Value} {l : List Lnk} (h : w.ownsRow base 49 4 v m (lcells l)) (hl : l.length = m) : ∃ A cap, v = .slice A m cap ∧ m ≤ cap ∧ RLnk w w.heap.size A m l := by
  subst hl
  rcases h.2 with ⟨rfl, h1⟩ | ⟨g, cap, cur, rfl, _, hg, h2, _⟩
  · exact ⟨none, 0, by rw [h1], by omega, rfl, fun h => by omega⟩
  refine ⟨_, cap, rfl, h2, rfl, fun _ => ⟨g, 0, rfl, ?_, fun i e he => ?_⟩⟩
  · rcases Nat.lt_or_ge g w.heap.size with hlt | hge
    · exact hlt
    · rw [Array.getElem?_eq_none hge] at hg; cases hg
  obtain ⟨h1, h2, h3, h4⟩ := lcells_at he
  have k1 := h.cells (g := g) rfl _ _ h1
  have k2 := h.cells (g := g) rfl _ _ h2
  have k3 := h.cells (g := g) rfl _ _ h3
  have k4 := h.cells (g := g) rfl _ _ h4
  rw [Go.WideShapes.add_plain] at k1 k2 k3 k4
  exact ⟨k1, by rw [Nat.add_assoc]; exact k2, by rw [Nat.add_assoc]; exact k3, by rw [Nat.add_assoc]; exact k4⟩
theorem chk_rep {nd : Int} {x : Lnk} (h : lnkErr nd x = 0) (k i : Nat) : chk nd (List.replicate k x) i = (-1, 0) := by
  induction k generalizing i with
  | zero => rfl
  | succ k ih => rw [List.replicate_succ]; simp only [chk]; rw [if_pos h]; exact ih (i + 1)
theorem rep_len (k : Nat) (x : Lnk) : (List.replicate k x).length = k := List.length_replicate
theorem box_app {wr w4 : World} {B base e s n : Nat} {v : Value} {xs : List Value} {o X : Obj} (hbox : wr.heap[B]? = some X) (hB : B < base) (hown : wr.ownsRow base e s v n xs) (hg : (wr.alloc o).grownBy w4 v.ownBlock) : w4.heap[B]? = some X := by
  have hlt : B < wr.heap.size := by
    rcases Nat.lt_or_ge B wr.heap.size with h1 | h1
    · exact h1
    · rw [Array.getElem?_eq_none h1] at hbox; cases hbox
  refine (hg.block B (by simp; omega) (fun h => ?_)).trans (((Below.alloc (Below.refl wr.heap.size wr) (Nat.le_refl _) o).block B hlt).trans hbox)
  have := (hown.lt B h.symm).1
  omega
theorem below_app {w1 wr w4 : World} {base e s n : Nat} {v : Value} {xs : List Value} {o : Obj} (h : Below w1.heap.size w1 wr) (hb : w1.heap.size ≤ base) (hown : wr.ownsRow base e s v n xs) (hg : (wr.alloc o).grownBy w4 v.ownBlock) : Below w1.heap.size w1 w4 :=
  Below.grown (h.alloc h.size o) hg (by have := h.size; simp; omega) (fun q hq => Nat.le_trans hb (hown.lt q hq).1)
/-- Block G is a row of N bools: H. -/
def BRow (w : World) (G N : Nat) (H : Nat → Bool) : Prop := ∃ cs : Array Value, w.heap[G]? = some (.cells cs 4 (0, 0)) ∧ cs.size = N ∧ ∀ e, e < N → cs[e]? = some (.bool (H e))
theorem BRow.lt {w : World} {G N : Nat} {H : Nat → Bool} (h : BRow w G N H) : G < w.heap.size := by
  obtain ⟨cs, hb, _⟩ := h
  rcases Nat.lt_or_ge G w.heap.size with h1 | h1
  · exact h1
  · rw [Array.getElem?_eq_none h1] at hb; cases hb
theorem BRow.cell {w : World} {G N e : Nat} {H : Nat → Bool} (h : BRow w G N H) (he : e < N) : w.cell? ⟨G, e, none⟩ = some (.bool (H e)) := by
  obtain ⟨cs, hb, _, hc⟩ := h
  rw [cell_of_row _ _ _ _ _ _ hb]
  exact hc e he
theorem BRow.frozen {w : World} {G N : Nat} {H : Nat → Bool} (h : BRow w G N H) (e : Nat) : w.frozen? ⟨G, e, none⟩ = false := by
  obtain ⟨cs, hb, _⟩ := h
  exact frozen_of_row _ _ _ _ _ hb
theorem BRow.below {w w' : World} {G N k : Nat} {H : Nat → Bool} (h : BRow w G N H) (hb : Below k w w') (hk : G < k) : BRow w' G N H := by
  obtain ⟨cs, h1, h2⟩ := h
  exact ⟨cs, box_below h1 hb hk, h2⟩
theorem BRow.on {w w' : World} {G N : Nat} {H : Nat → Bool} (h : BRow w G N H) (hb : Below w.heap.size w w') : BRow w' G N H := h.below hb h.lt
theorem BRow.congr {w : World} {G N : Nat} {H H' : Nat → Bool} (h : BRow w G N H) (he : ∀ e, e < N → H' e = H e) : BRow w G N H' := by
  obtain ⟨cs, h1, h2, h3⟩ := h
  exact ⟨cs, h1, h2, fun e hl => by rw [h3 e hl, he e hl]⟩
theorem BRow.set {w : World} {G N e : Nat} {H : Nat → Bool} (h : BRow w G N H) (b : Bool) : BRow (w.setCell ⟨G, e, none⟩ (.bool b)) G N (fun j => if j = e then b else H j) := by
  obtain ⟨cs, h1, h2, h3⟩ := h
  refine ⟨_, heap_setCell_same w G e cs _ _ h1, by simpa using h2, fun j hj => ?_⟩
  rw [Array.getElem?_setIfInBounds]
  by_cases hje : e = j
  · subst hje; simp [h2, hj]
  · rw [if_neg hje, h3 j hj]
    show some (Value.bool (H j)) = some (Value.bool (if j = e then b else H j))
    rw [if_neg (fun h => hje h.symm)]
theorem BRow.drewN {w : World} {G N : Nat} {H : Nat → Bool} (h : BRow w G N H) (k : Nat) : BRow (w.drewN k) G N H := h
theorem BRow.made {w : World} {base G N : Nat} (h : w.ownsRow base 4 1 (.slice (some ⟨G, 0, none⟩) N N) N (madeCells (Value.bool false).cells (N * 1)).toList) : BRow w G N (fun _ => false) := by
  rcases h.2 with ⟨h1, _⟩ | ⟨g, cap, cur, h1, _, hg, _, _, h4, h5⟩
  · cases h1
  · simp only [Value.slice.injEq, Option.some.injEq, Addr.mk.injEq] at h1
    obtain ⟨⟨rfl, _⟩, _, rfl⟩ := h1
    refine ⟨cur, hg, by omega, fun e he => ?_⟩
    have h6 : cur.toList = List.replicate N (Value.bool false) := by
      rw [List.take_of_length_le (by simp; omega)] at h5
      rw [h5, Nat.mul_one, show (Value.bool false).cells = #[Value.bool false] from rfl, toList_madeCells_one]
    rw [← Array.getElem?_toList, h6]
    simp [he]
/-- Where an edge begins. -/
def frm (l : List Lnk) (e : Nat) : Int := (endsS l (e : Int)).1
/-- How many of the first N edges begin at a node below i. -/
def cntB (l : List Lnk) (i : Int) : Nat → Nat
  | 0 => 0
  | N + 1 => cntB l i N + if frm l N < i then 1 else 0
theorem cntB_succ (l : List Lnk) (i : Int) (N : Nat) : cntB l (i + 1) N = cntB l i N + (outS l i N).length := by
  induction N with
  | zero => rfl
  | succ N ih =>
    rw [outS_succ, List.length_append]
    simp only [cntB, ih]
    have hf : (endsS l (N : Int)).1 = frm l N := rfl
    rw [hf]
    rcases (show frm l N < i ∨ frm l N = i ∨ i < frm l N by omega) with h | h | h
    · rw [if_pos (by omega), if_pos h, if_neg (by omega)]; simp; omega
    · rw [if_pos (by omega), if_neg (by omega), if_pos h]; simp; omega
    · rw [if_neg (by omega), if_neg (by omega), if_neg (by omega)]; simp
theorem cntB_le (l : List Lnk) (i : Int) (N : Nat) : cntB l i N ≤ N := by
  induction N with
  | zero => exact Nat.le_refl _
  | succ N ih => simp only [cntB]; split <;> omega
theorem cntB_zero {l : List Lnk} {i : Int} {N : Nat} (h : ∀ e, e < N → i ≤ frm l e) : cntB l i N = 0 := by
  induction N with
  | zero => rfl
  | succ N ih => simp only [cntB]; rw [ih (fun e he => h e (by omega)), if_neg (by have := h N (by omega); omega)]
theorem cntB_all {l : List Lnk} {i : Int} {N : Nat} (h : ∀ e, e < N → frm l e < i) : cntB l i N = N := by
  induction N with
  | zero => rfl
  | succ N ih => simp only [cntB]; rw [ih (fun e he => h e (by omega)), if_pos (h N (by omega))]
theorem outS_none {l : List Lnk} {i : Int} {N : Nat} (h : ∀ e, e < N → frm l e ≠ i) : outS l i N = [] := by
  rcases List.eq_nil_or_concat (outS l i N) with h0 | ⟨r, x, h0⟩
  · exact h0
  · have : x ∈ outS l i N := by rw [h0]; simp
    obtain ⟨e, he, _, hf⟩ := mem_outS.1 this
    exact absurd hf (h e he)
theorem outS_sorted (l : List Lnk) (i : Int) (N : Nat) : (outS l i N).Pairwise (· < ·) := by
  unfold outS
  refine List.Pairwise.filter _ ?_
  exact List.pairwise_map.2 (List.Pairwise.imp (fun {a b} h => by omega) List.pairwise_lt_range)
theorem sorted_at {L : List Int} (h : L.Pairwise (· < ·)) {i j : Nat} {x y : Int} (hi : L[i]? = some x) (hj : L[j]? = some y) (hij : i < j) : x < y := by
  obtain ⟨h1, rfl⟩ := List.getElem?_eq_some_iff.1 hi
  obtain ⟨h2, rfl⟩ := List.getElem?_eq_some_iff.1 hj
  exact List.pairwise_iff_getElem.1 h i j h1 h2 hij
theorem sorted_not_before {L : List Int} (h : L.Pairwise (· < ·)) {k : Nat} {x : Int} (hk : L[k]? = some x) : x ∉ L.take k := by
  intro hm
  obtain ⟨j, hj, hx⟩ := List.getElem_of_mem hm
  rw [List.length_take] at hj
  have h1 : L[j]? = some x := by
    rw [List.getElem_take] at hx
    rw [List.getElem?_eq_getElem (by omega), hx]
  have := sorted_at h h1 hk (by omega)
  omega
theorem chk_all {nd : Int} {l : List Lnk} {i : Nat} (h : (chk nd l i).2 = 0) : ∀ x ∈ l, lnkErr nd x = 0 := by
  induction l generalizing i with
  | nil => intro x hx; cases hx
  | cons a r ih =>
    simp only [chk] at h
    split at h
    · intro x hx
      rcases List.mem_cons.1 hx with rfl | hx
      · assumption
      · exact ih h x hx
    · exact absurd h ‹_›
theorem frm_range {nd : Int} {l : List Lnk} (h : (chk nd l 0).2 = 0) {e : Nat} (he : e < 2 * l.length) : 0 ≤ frm l e ∧ frm l e < nd := by
  obtain ⟨x, hx⟩ : ∃ x, l[e / 2]? = some x := ⟨l[e / 2]'(by omega), List.getElem?_eq_getElem _⟩
  have h1 := chk_all h x (List.mem_of_getElem? hx)
  have h2 := endsS_some hx
  unfold lnkErr at h1
  split at h1
  · rename_i h3
    unfold frm
    rw [h2]
    split
    · exact ⟨h3.1, h3.2.1⟩
    · exact ⟨h3.2.2.1, h3.2.2.2.1⟩
  · cases h1
/-- What the next edge of a node's row is. -/
theorem row_next {l : List Lnk} {i : Int} {N k : Nat} {x : Int} (h : (outS l i N)[k]? = some x) : ∃ e : Nat, x = (e : Int) ∧ e < N ∧ frm l e = i ∧ (e : Int) ∉ (outS l i N).take k := by
  obtain ⟨e, he, rfl, hf⟩ := mem_outS.1 (List.mem_of_getElem? h)
  exact ⟨e, rfl, he, hf, sorted_not_before (outS_sorted l i N) h⟩
/-- What is marked: the edges of the nodes below i, and the first k of node i. -/
def marks (l : List Lnk) (i : Int) (N k : Nat) (e : Nat) : Bool := decide (frm l e < i) || decide ((e : Int) ∈ (outS l i N).take k)
theorem marks_new {l : List Lnk} {i : Int} {N k e : Nat} (hf : frm l e = i) (hm : (e : Int) ∉ (outS l i N).take k) : marks l i N k e = false := by
  simp [marks, hf, hm]
theorem marks_step {l : List Lnk} {i : Int} {N k e : Nat} (h : (outS l i N)[k]? = some (e : Int)) (j : Nat) : marks l i N (k + 1) j = if j = e then true else marks l i N k j := by
  unfold marks
  have h1 := mem_take_succ (k := (j : Int)) h
  by_cases hj : j = e
  · subst hj
    rw [if_pos rfl, decide_eq_true (h1.2 (.inr rfl))]; simp
  · rw [if_neg hj]
    congr 1
    rw [decide_eq_decide, h1]
    exact ⟨fun h => h.elim id (fun h => absurd h (by omega)), .inl⟩
theorem marks_end {l : List Lnk} {i : Int} {N m j : Nat} (hm : (outS l i N).length = m) (hj : j < N) : marks l (i + 1) N 0 j = marks l i N m j := by
  unfold marks
  rw [List.take_zero, List.take_of_length_le (show (outS l i N).length ≤ m by omega)]
  by_cases h : frm l j = i
  · rw [decide_eq_true (by omega), decide_eq_true (mem_outS.2 ⟨j, hj, rfl, h⟩)]; simp
  · have hn : (j : Int) ∉ outS l i N := by
      intro hmem
      obtain ⟨e, _, he, hf⟩ := mem_outS.1 hmem
      have : e = j := by omega
      subst this
      exact h hf
    rw [decide_eq_false hn]
    simp
    omega
theorem marks_zero {l : List Lnk} {N j : Nat} (h : 0 ≤ frm l j) : marks l 0 N 0 j = false := by
  simp [marks]; omega
end Go.Proofs.Ytkemcgbedapkcaa

/- What a call of a law holds: the box of the graph stays. -/
namespace Go.Proofs.Ytkemcgbedapkcaa
open Go.RowKit
set_option maxHeartbeats 6400000
set_option maxRecDepth 100000
/-- What Out answers. -/
def OutAns (l : List Lnk) (node : Int) (w : World) (e : Ending) (w' : World) : Prop :=
  ∃ v, e = .returned v ∧ w'.ownsRow w.heap.size 3 1 v (outS l node (2 * l.length)).length (icells (outS l node (2 * l.length))) ∧ Below w.heap.size w w'
/-- The links read as before below w's end, and the graph's box stands. -/
def Held (w : World) (nd : Int) (A : Option Addr) (n c : Nat) (w' : World) : Prop :=
  Below w.heap.size w w' ∧ w'.heap[w.heap.size]? = some (.cells #[.int .i64 nd, .slice A n c] 24 (0, 0))
theorem Held.start (w : World) (nd : Int) (A : Option Addr) (n c : Nat) : Held w nd A n c (w.alloc (.cells #[.int .i64 nd, .slice A n c] 24)) :=
  ⟨Below.alloc (Below.refl _ _) (Nat.le_refl _) _, heap_alloc_new w _⟩
theorem Held.lt {w w' : World} {nd : Int} {A : Option Addr} {n c : Nat} (h : Held w nd A n c w') : w.heap.size < w'.heap.size := by
  rcases Nat.lt_or_ge w.heap.size w'.heap.size with h1 | h1
  · exact h1
  · have := h.2; rw [Array.getElem?_eq_none h1] at this; cases this
theorem Held.next {w w' w'' : World} {nd : Int} {A : Option Addr} {n c : Nat} (h : Held w nd A n c w') (hb : Below w'.heap.size w' w'') : Held w nd A n c w'' :=
  ⟨h.1.trans (hb.mono h.1.size), box_below h.2 hb h.lt⟩
theorem Held.drewN {w w' : World} {nd : Int} {A : Option Addr} {n c : Nat} (h : Held w nd A n c w') (k : Nat) : Held w nd A n c (w'.drewN k) := ⟨below_drewN h.1, h.2⟩
theorem Held.drew {w w' : World} {nd : Int} {A : Option Addr} {n c : Nat} (h : Held w nd A n c w') : Held w nd A n c w'.drew := ⟨h.1.drew, h.2⟩
theorem Held.cells {w w' : World} {nd : Int} {A : Option Addr} {n c : Nat} (h : Held w nd A n c w') : w'.cell? ⟨w.heap.size, 0, none⟩ = some (.int .i64 nd) ∧ w'.cell? ⟨w.heap.size, 1, none⟩ = some (.slice A n c) :=
  ⟨(box_cells h.2).1, (box_cells h.2).2.1⟩
theorem Held.on {w w' : World} {nd : Int} {A A' : Option Addr} {n c n' : Nat} {l : List Lnk} (h : Held w nd A n c w') (hr : RLnk w w.heap.size A' n' l) : RLnk w' w'.heap.size A' n' l := hr.on h.1
theorem Held.calls {w : World} {nd : Int} {A : Option Addr} {n c : Nat} {f : Nat} {args : Array Value} {R : Ending → Prop} {w' : World} (h : Held w nd A n c w') (hc : Calls Try.prog f args w' fun e w'' => R e ∧ Below w'.heap.size w' w'') :
    Calls Try.prog f args w' fun e w'' => R e ∧ Held w nd A n c w'' := hc.mono fun _ _ ⟨h1, h2⟩ => ⟨h1, h.next h2⟩
/-- What a slice of numbers that a call made holds. -/
theorem held_out {w : World} {nd : Int} {A : Option Addr} {n c : Nat} {f : Nat} {args : Array Value} {l : List Lnk} {node : Int} {w' : World} (h : Held w nd A n c w') (hc : Calls Try.prog f args w' (OutAns l node w')) :
    Calls Try.prog f args w' fun e w'' => ∃ A' c', e = .returned (.slice A' (outS l node (2 * l.length)).length c') ∧ RInt w'' w''.heap.size A' (outS l node (2 * l.length)).length (outS l node (2 * l.length)) ∧ Below w'.heap.size w' w'' ∧ Held w nd A n c w'' := by
  refine hc.mono ?_
  rintro e' w'' ⟨v, rfl, hown, hb⟩
  obtain ⟨A', c', rfl, _, hr⟩ := own_ints hown rfl
  exact ⟨A', c', rfl, hr, hb, h.next hb⟩
theorem Held.set {w w' : World} {nd : Int} {A : Option Addr} {n c G j : Nat} {u : Value} (h : Held w nd A n c w') (hG : w.heap.size < G) : Held w nd A n c (w'.setCell ⟨G, j, none⟩ u) :=
  ⟨h.1.setCell (by show _ ≤ G; omega) u, (heap_setCell_other _ _ _ _ (by show _ ≠ G; omega)).trans h.2⟩

end Go.Proofs.Ytkemcgbedapkcaa
