/- Words that are of no layer and name no type of the program: what is hidden from a walk, bytes as cells, slices that read as bytes, what a call owns, joins and masks of bits, copies. -/
import Derived.Test.YtjblhajmnlcfaaaProg
import Derived.WalkKit
import Derived.Deep.QuietTactic
import Derived.BigQuiet
import Derived.Below
import Derived.Laws.OwnMore
import Derived.Deep.AppendLies
import Derived.Deep.Draws
import Derived.Laws.BitsLemmas
import Derived.Laws.BitsAllLaws
import Derived.Laws.StructEq
import Derived.Laws.AppendOwnNone
import Derived.Laws.IdiomStrings
namespace Go.Proofs.Ytjblhajmnlcfaaa
open Go.RowKit
set_option maxHeartbeats 1600000
set_option maxRecDepth 100000
theorem hid {p : Prop} (h : p) : Hid p := h
theorem ret_bool {a b : Bool} (h : a = b) : Ending.returned (.bool a) = Ending.returned (.bool b) := by rw [h]
theorem ret_int {k : IntKind} {a b : Int} (h : a = b) : Ending.returned (.int k a) = Ending.returned (.int k b) := by rw [h]
def byt (x : Int) : UInt8 := UInt8.ofNat (x % 256).toNat
theorem byt_val (x : Int) : ((byt x).toNat : Int) = x % 256 := by
  unfold byt
  rw [UInt8.toNat_ofNat']
  omega
def bcells (l : List UInt8) : List Value := l.map fun b => .int .u8 (b.toNat : Int)
theorem bcells_app (a b : List UInt8) : bcells (a ++ b) = bcells a ++ bcells b := List.map_append
theorem bcells_len (a : List UInt8) : (bcells a).length = a.length := List.length_map _
/-- A slice value reads as the bytes bs below block B. -/
def RByt (w : World) (B : Nat) (A : Option Addr) (n : Nat) (bs : List UInt8) : Prop :=
  bs.length = n ∧ (0 < n → ∃ b off, A = some ⟨b, off, none⟩ ∧ b < B ∧ ∀ (i : Nat) (x : UInt8), bs[i]? = some x → w.cell? ⟨b, off + i, none⟩ = some (.int .u8 (x.toNat : Int)))
theorem RByt.below {w w' : World} {B n : Nat} {A : Option Addr} {l : List UInt8} (h : RByt w B A n l) (hb : Below B w w') : RByt w' B A n l := by
  refine ⟨h.1, fun hn => ?_⟩
  obtain ⟨b, off, hA, hB, hc⟩ := h.2 hn
  exact ⟨b, off, hA, hB, fun i e he => (hb.cell (p := ⟨b, _, none⟩) hB).trans (hc i e he)⟩
theorem RByt.more {w : World} {B B' n : Nat} {A : Option Addr} {l : List UInt8} (h : RByt w B A n l) (hB : B ≤ B') : RByt w B' A n l := by
  refine ⟨h.1, fun hn => ?_⟩
  obtain ⟨b, off, hA, hb, hc⟩ := h.2 hn
  exact ⟨b, off, hA, by omega, hc⟩
theorem grown_of_below {a w : World} (h : Below a.heap.size a w) (row : Option Nat) : a.grownBy w row := ⟨h.os, h.tape, h.output, h.size, fun i hi _ => h.block i hi⟩
theorem own_below {w w' : World} {base : Nat} {e : TypeId} {size : Nat} {v : Value} {n : Nat} {xs : List Value} (h : w.ownsRow base e size v n xs) (hb : Below w.heap.size w w') : w'.ownsRow base e size v n xs := by
  refine h.kept (grown_of_below hb none) ?_
  cases hv : v.ownBlock with
  | none => exact .inl rfl
  | some k => exact .inr (by simp)
theorem wraps_u32 (n : Int) (_ : 0 ≤ n) (h₁ : n < 2 ^ 32) : IntKind.u32.wrap n = n := by rw [IntKind.wrap_u32]; omega
theorem wraps_i64 (n : Int) (_ : 0 ≤ n) (h₁ : n < 2 ^ 63) : IntKind.i64.wrap n = n := by rw [IntKind.wrap_i64]; omega
theorem u32_join (i : Nat) (x y : Int) (hx₀ : 0 ≤ x) (hx : x % 2 ^ i = 0) (hx₁ : x < 4294967296) (hy₀ : 0 ≤ y) (hy : y < 2 ^ i) (hy₁ : y < 4294967296) : bits .or .u32 x y = x + y :=
  bits_join .u32 32 (by decide) wraps_u32 i x y hx₀ hx (by simpa using hx₁) hy₀ hy (by simpa using hy₁)
theorem i64_join (i : Nat) (x y : Int) (hx₀ : 0 ≤ x) (hx : x % 2 ^ i = 0) (hx₁ : x < 9223372036854775808) (hy₀ : 0 ≤ y) (hy : y < 2 ^ i) (hy₁ : y < 9223372036854775808) : bits .or .i64 x y = x + y :=
  bits_join .i64 63 (by decide) wraps_i64 i x y hx₀ hx (by simpa using hx₁) hy₀ hy (by simpa using hy₁)
theorem u32_mask (i : Nat) (hi : i ≤ 32) (m : Int) (hm : m = 2 ^ i - 1) (x : Int) (h₀ : 0 ≤ x) (h₁ : x < 4294967296) : bits .and .u32 x m = x % 2 ^ i := by
  rw [hm]; exact bits_mask .u32 32 (by decide) wraps_u32 i hi x h₀ (by simpa using h₁)
theorem i64_mask (i : Nat) (hi : i ≤ 63) (m : Int) (hm : m = 2 ^ i - 1) (x : Int) (h₀ : 0 ≤ x) (h₁ : x < 9223372036854775808) : bits .and .i64 x m = x % 2 ^ i := by
  rw [hm]; exact bits_mask .i64 63 (by decide) wraps_i64 i hi x h₀ (by simpa using h₁)
theorem u32_or_assoc (x y z : Int) (hx : 0 ≤ x) (hx' : x < 4294967296) (hy : 0 ≤ y) (hy' : y < 4294967296) (hz : 0 ≤ z) (hz' : z < 4294967296) : bits .or .u32 (bits .or .u32 x y) z = bits .or .u32 x (bits .or .u32 y z) := by
  obtain ⟨a, rfl⟩ := Int.eq_ofNat_of_zero_le hx
  obtain ⟨b, rfl⟩ := Int.eq_ofNat_of_zero_le hy
  obtain ⟨c, rfl⟩ := Int.eq_ofNat_of_zero_le hz
  have h1 : a ||| b < 2 ^ 32 := Nat.or_lt_two_pow (by omega) (by omega)
  have h2 : b ||| c < 2 ^ 32 := Nat.or_lt_two_pow (by omega) (by omega)
  rw [u32_or_nat a b (by omega) (by omega), u32_or_nat b c (by omega) (by omega), u32_or_nat _ c (by omega) (by omega), u32_or_nat a _ (by omega) (by omega), Nat.or_assoc]
theorem word32 (a b c d : Int) (ha : 0 ≤ a) (ha' : a < 256) (hb : 0 ≤ b) (hb' : b < 256) (hc : 0 ≤ c) (hc' : c < 256) (hd : 0 ≤ d) (hd' : d < 256) :
    bits .or .u32 (bits .or .u32 (bits .or .u32 (a * 16777216) (b * 65536)) (c * 256)) d = a * 16777216 + b * 65536 + c * 256 + d := by
  rw [u32_join 24 (a * 16777216) (b * 65536) (by omega) (by omega) (by omega) (by omega) (by omega) (by omega), u32_join 16 _ (c * 256) (by omega) (by omega) (by omega) (by omega) (by omega) (by omega),
    u32_join 8 _ d (by omega) (by omega) (by omega) (by omega) (by omega) (by omega)]
theorem word64 (a b c d : Int) (ha : 0 ≤ a) (ha' : a < 256) (hb : 0 ≤ b) (hb' : b < 256) (hc : 0 ≤ c) (hc' : c < 256) (hd : 0 ≤ d) (hd' : d < 256) :
    bits .or .i64 (bits .or .i64 (bits .or .i64 (a * 16777216) (b * 65536)) (c * 256)) d = a * 16777216 + b * 65536 + c * 256 + d := by
  rw [i64_join 24 (a * 16777216) (b * 65536) (by omega) (by omega) (by omega) (by omega) (by omega) (by omega), i64_join 16 _ (c * 256) (by omega) (by omega) (by omega) (by omega) (by omega) (by omega),
    i64_join 8 _ d (by omega) (by omega) (by omega) (by omega) (by omega) (by omega)]
theorem grown_below {w w' : World} (h : w.grownBy w' none) : Below w.heap.size w w' := ⟨h.os, h.tape, h.output, h.size, fun k hk => h.block k hk (by simp)⟩
theorem new_row {w : World} {xs : List Value} {cs : Array Value} {t : TypeId} (h : cs = xs.toArray) : ∀ (j : Nat) (u : Value), xs[j]? = some u → (w.alloc (.cells cs t)).cell? ((⟨w.heap.size, 0, none⟩ : Addr).add j) = some u := by
  intro j u hu
  subst h
  rw [show (⟨w.heap.size, 0, none⟩ : Addr).add j = ⟨w.heap.size, j, none⟩ by simp [Go.WideShapes.add_plain], cell_of_row _ _ _ _ _ _ (heap_alloc_new w _)]
  simpa using hu
theorem bcells_one (l : List UInt8) : ∀ u ∈ bcells l, u.oneCell' = true := by
  intro u hu
  simp only [bcells, List.mem_map] at hu
  obtain ⟨b, _, rfl⟩ := hu
  rfl
/-- behind a round: a block for the entry, a call, a block for what is appended, the append -/
theorem below_round {w wr w3 w4 : World} {B : Nat} {o1 o2 : Obj} {v : Value} {e : TypeId} {size n : Nat} {xs : List Value} (hB : B = w.heap.size) (h : Below B w wr) (h3 : Below (wr.alloc o1).heap.size (wr.alloc o1) w3)
    (hown : wr.ownsRow B e size v n xs) (hg : (w3.alloc o2).grownBy w4 v.ownBlock) : Below B w w4 := by
  have hs1 := h.size
  have hs3 := h3.size
  have a1 : Below B w (wr.alloc o1) := h.alloc (by omega) _
  have a2 : Below B w w3 := a1.trans (h3.mono (by simp; omega))
  refine Below.grown (a2.alloc (by simp at hs3; omega) o2) hg (by simp at hs3 ⊢; omega) (fun k hk => (hown.lt k hk).1)
theorem RByt.take {w : World} {B n k : Nat} {A : Option Addr} {l : List UInt8} (h : RByt w B A n l) (hk : k ≤ n) : RByt w B A k (l.take k) := by
  refine ⟨by rw [List.length_take, h.1]; omega, fun hk0 => ?_⟩
  obtain ⟨b, off, h1, h2, h3⟩ := h.2 (by omega)
  refine ⟨b, off, h1, h2, fun i x hx => h3 i x ?_⟩
  rw [List.getElem?_take] at hx
  split at hx
  · exact hx
  · simp at hx
theorem byt_src {w : World} {B g o n : Nat} {bs : List UInt8} (h : RByt w B (some ⟨g, o, none⟩) n bs) (hn : 0 < n) : ∀ (j : Nat) (u : Value), (bcells bs)[j]? = some u → w.cell? ((⟨g, o, none⟩ : Addr).add j) = some u := by
  intro j u hu
  obtain ⟨b, off, h1, _, hc⟩ := h.2 hn
  simp only [Option.some.injEq, Addr.mk.injEq] at h1
  obtain ⟨rfl, rfl, _⟩ := h1
  rw [Go.WideShapes.add_plain]
  simp only [bcells, List.getElem?_map, Option.map_eq_some_iff] at hu
  obtain ⟨x, hx, rfl⟩ := hu
  exact hc j x hx
theorem byt_len {w : World} {B n : Nat} {A : Option Addr} {bs : List UInt8} (h : RByt w B A n bs) : (bcells bs).length = n * 1 := by rw [bcells_len, h.1]; omega
theorem below_two {w3 w4 w5 : World} {o : Obj} {v : Value} {e : TypeId} {size n : Nat} {xs : List Value} (h4 : w3.grownBy w4 none) (hown : w4.ownsRow w3.heap.size e size v n xs) (h5 : (w4.alloc o).grownBy w5 v.ownBlock) : Below w3.heap.size w3 w5 :=
  Below.grown ((grown_below h4).alloc (grown_below h4).size o) h5 (by have := h4.size; simp; omega) (fun k hk => (hown.lt k hk).1)
/-- 'append([]T(nil), x...)', whatever x: what it held is owned. -/
theorem wpList_copy {P : Program} {w : World} {ops : Array Oper} {rest : List Oper} {o : Oper} {a : Act} {Q : Exit → Act → World → Prop} (hgd : o.guard = none) (s x : Operand) (t : TypeId)
    (ho : o.op = .call { callee := .builtin .append, args := #[s, x], argTypes := #[t, t] })
    (base : Nat) (e : TypeId) (i : TypeInfo) (z : Value) (size bytes : Nat) (ht : P.underlying t = some (.slice e)) (hi : P.info? e = some i) (hz : i.zero = some z)
    (hsize : i.size = size) (hby : i.bytes = bytes) (hzs : z.cells.size = size) (hsz : 0 < size)
    (hs : a.eval s = .slice none 0 0) (A : Option Addr) (m c : Nat) (news : List Value) (hx : a.eval x = .slice A m c) (hA : A = none → m = 0 ∧ c = 0)
    (hl : news.length = m * size) (hnews : ∀ ad, A = some ad → ∀ j u, news[j]? = some u → w.cell? (ad.add j) = some u) (h1 : ∀ u ∈ news, u.oneCell' = true)
    (h63 : m ≤ maxLen) (hbytes : m * bytes ≤ 140737488355328) (hbase : base ≤ w.heap.size)
    (h : ∀ v' w', w'.ownsRow base e size v' m news → Below w.heap.size w w' → wpList P ops Q rest (a.put o.dst v') w') : wpList P ops Q (o :: rest) a w := by
  cases A with
  | none =>
    obtain ⟨rfl, rfl⟩ := hA rfl
    have hn0 : news = [] := List.length_eq_zero_iff.1 (by omega)
    subst hn0
    exact wpList_append_own_none hgd s x t ho base e i size ht hi _ 0 [] hs (World.ownsRow_nil _ _ _ _) hx (h _ _ (World.ownsRow_nil _ _ _ _) (Below.refl _ _))
  | some ad =>
    refine wpList_append_own w hgd s x t ho base e i z size bytes ht hi hz hsize hby hzs hsz _ 0 [] hs (World.ownsRow_nil _ _ _ _) ad m c news hx hl (hnews ad rfl) h1 (by omega) (by rw [Nat.zero_add]; exact hbytes) hbase ?_
    intro v' w' h2 h3 _
    rw [Nat.zero_add, List.nil_append] at h2
    exact h v' w' h2 (grown_below h3)
theorem rbyt_nil (w : World) (B : Nat) (A : Option Addr) : RByt w B A 0 [] := ⟨rfl, fun h => by omega⟩
theorem byt_src' {w : World} {B n : Nat} {A : Option Addr} {bs : List UInt8} (h : RByt w B A n bs) : ∀ ad, A = some ad → ∀ (j : Nat) (u : Value), (bcells bs)[j]? = some u → w.cell? (ad.add j) = some u := by
  intro ad hA j u hu
  have hj : j < (bcells bs).length := (List.getElem?_eq_some_iff.1 hu).1
  rw [bcells_len, h.1] at hj
  obtain ⟨b, off, h1, _, _⟩ := h.2 (by omega)
  subst h1
  simp only [Option.some.injEq] at hA
  subst hA
  exact byt_src h (by omega) j u hu
end Go.Proofs.Ytjblhajmnlcfaaa
