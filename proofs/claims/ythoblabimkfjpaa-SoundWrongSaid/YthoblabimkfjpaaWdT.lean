/- Words without a type of the program, continued: texts. -/
import Derived.Test.YthoblabimkfjpaaWdB
import Derived.Laws.ResultCell
import Derived.Laws.Rows
namespace Go.Proofs.Ythoblabimkfjpaa
open Go.RowKit
set_option maxHeartbeats 3200000
set_option maxRecDepth 100000
/-- A text. -/
def txt (l : List UInt8) : ByteArray := ⟨l.toArray⟩
theorem txt_app (a b : List UInt8) : txt a ++ txt b = txt (a ++ b) := by
  apply ByteArray.ext
  show _ = (a ++ b).toArray
  rw [ByteArray.data_append]
  simp [txt]
theorem txt_size (a : List UInt8) : (txt a).size = a.length := rfl
theorem run_cat (a b : List UInt8) (h : a.length + b.length ≤ 1000000000) (W : World) : (Op.stringOp .add (txt a) (txt b)).run Try.prog W = .ok (.string (txt (a ++ b))) W := by
  rw [run_string_add_sum W _ _ (by rw [txt_size, txt_size]; omega), txt_app]
theorem run_mark (a : List UInt8) (c : UInt8) (h : a.length ≤ 1000) (W : World) : (Op.stringOp .add (txt a) ⟨#[c]⟩).run Try.prog W = .ok (.string (txt (a ++ [c]))) W := run_cat a [c] (by simp; omega) W
theorem txt_list (l : List UInt8) : (txt l).toList = l := by
  rw [ByteArray.toList_eq]; rfl
theorem run_at (L : List UInt8) (i : Nat) (x : UInt8) (h : L[i]? = some x) (W : World) : (Instr.index 9 (.string (txt L)) (.int .i64 (i : Int))).run Try.prog W = .ok (.int .u8 (x.toNat : Int)) W := by
  obtain ⟨hi, hx⟩ := List.getElem?_eq_some_iff.1 h
  rw [run_index_string W 9 (txt L) .i64 (i : Int) Try.underlying9, dif_pos ⟨by omega, by rw [txt_size]; omega⟩]
  have e : (txt L)[((i : Int).toNat)]'(by rw [txt_size]; omega) = x := hx
  rw [e]
theorem pf_form {w : World} {base e size n : Nat} {v : Value} {xs : List Value} (h : w.ownsRow base e size v n xs) : ∃ A c, v = .slice A n c := by
  rcases h.2 with ⟨rfl, rfl⟩ | ⟨g, cap, cur, rfl, _⟩
  · exact ⟨_, _, rfl⟩
  · exact ⟨_, _, rfl⟩
theorem pf_app {wr w4 : World} {B base e s n : Nat} {v : Value} {xs : List Value} {o X : Obj} (hbox : wr.heap[B]? = some X) (hB : B < base) (hown : wr.ownsRow base e s v n xs) (hg : (wr.alloc o).grownBy w4 v.ownBlock) : w4.heap[B]? = some X := by
  have hlt : B < wr.heap.size := by
    rcases Nat.lt_or_ge B wr.heap.size with h1 | h1
    · exact h1
    · rw [Array.getElem?_eq_none h1] at hbox; cases hbox
  refine (hg.block B (by simp; omega) (fun h => ?_)).trans (((Below.alloc (Below.refl wr.heap.size wr) (Nat.le_refl _) o).block B hlt).trans hbox)
  have := (hown.lt B h.symm).1
  omega
theorem results_cellrow_tmp {P : Program} {fn : Func} {p u : Tmp} {ty : TypeId} (h : fn.results = #[.cell p ty, .tmp u]) (tmps : Array Value) (w : World) (g : Nat) (t : TypeId) (cs : Array Value) (fr : Nat × Nat) (d : TypeDesc)
    (hp : tmps.getD p undef = .pointer (some ⟨g, 0, none⟩)) (hg : w.heap[g]? = some (.cells cs t fr))
    (hu : P.underlying ty = some d) (hd : (match d with | .struct _ | .array _ _ => true | _ => false) = true) (hi : (P.info? ty).map (·.size) = some cs.size) :
    (results fn tmps).run P w = .ok (.tuple #[.agg cs, tmps.getD u undef]) w := by
  rw [results_cell_tmp h, hp]
  simp only [asAddr, Sem.run_pure, Result.andThen_ok, run_loadVar_row w g t ty cs fr d hg hu hd hi]
def scells (L : List (List UInt8)) : List Value := L.map fun x => .string (txt x)
theorem scells_app (a b : List (List UInt8)) : scells (a ++ b) = scells a ++ scells b := List.map_append
theorem scells_one (L : List (List UInt8)) : ∀ u ∈ scells L, u.oneCell' = true := by
  intro u hu
  simp only [scells, List.mem_map] at hu
  obtain ⟨b, _, rfl⟩ := hu
  rfl
theorem scells_len (L : List (List UInt8)) : (scells L).length = L.length := List.length_map _
theorem str_row (x : List UInt8) : #[Value.string (txt x)] = (scells [x]).toArray := rfl
theorem run_piece (s : List UInt8) (k : Nat) (x : UInt8) (h : s[k]? = some x) (W : World) : (Instr.slice 9 (.string (txt s)) (some (.int .i64 (k : Int))) (some (.int .i64 ((k : Int) + 1))) none).run Try.prog W = .ok (.string (txt [x])) W := by
  obtain ⟨hk, hx⟩ := List.getElem?_eq_some_iff.1 h
  rw [run_slice_string W 9 _ .i64 .i64 _ _ Try.underlying9 (by omega) (by omega) (by rw [txt_size]; omega)]
  rw [Int.toNat_natCast, show ((k : Int) + 1).toNat = k + 1 by omega]
  congr 2
  show (ByteArray.mk s.toArray).extract k (k + 1) = _
  rw [ByteArray.extract_mk, show k + 1 - k = 1 by omega, List.drop_eq_getElem_cons hk, hx]
  rfl
/-- A row of texts. -/
def RStr (w : World) (B : Nat) (A : Option Addr) (n : Nat) (L : List (List UInt8)) : Prop :=
  L.length = n ∧ (0 < n → ∃ b off, A = some ⟨b, off, none⟩ ∧ b < B ∧ ∀ (i : Nat) (x : List UInt8), L[i]? = some x → w.cell? ⟨b, off + i, none⟩ = some (.string (txt x)))
theorem own_strs {w : World} {base m : Nat} {v : Value} {l : List (List UInt8)} (h : w.ownsRow base 9 1 v m (scells l)) (hl : l.length = m) : ∃ A cap, v = .slice A m cap ∧ m ≤ cap ∧ RStr w w.heap.size A m l := by
  subst hl
  rcases Nat.eq_zero_or_pos l.length with h0 | h0
  · rcases h.2 with ⟨rfl, h1⟩ | ⟨g, cap, cur, rfl, _, _, h2, _⟩
    · exact ⟨none, 0, by rw [h0], by omega, rfl, fun h => by omega⟩
    · exact ⟨_, cap, rfl, by omega, rfl, fun h => by omega⟩
  · rcases h.2 with ⟨_, h1⟩ | ⟨g, cap, cur, rfl, _, hg, h2, _⟩
    · omega
    refine ⟨_, cap, rfl, h2, rfl, fun _ => ⟨g, 0, rfl, ?_, fun i e he => ?_⟩⟩
    · rcases Nat.lt_or_ge g w.heap.size with hlt | hge
      · exact hlt
      · rw [Array.getElem?_eq_none hge] at hg; cases hg
    have k1 := h.cells (g := g) rfl i (.string (txt e)) (by simp [scells, he])
    rw [Go.WideShapes.add_plain] at k1
    exact k1
/-- A part of a text. -/
theorem run_part (s : List UInt8) (i j : Nat) (h : i ≤ j) (hj : j ≤ s.length) (W : World) : (Instr.slice 9 (.string (txt s)) (some (.int .i64 (i : Int))) (some (.int .i64 (j : Int))) none).run Try.prog W = .ok (.string (txt ((s.drop i).take (j - i)))) W := by
  rw [run_slice_string W 9 _ .i64 .i64 _ _ Try.underlying9 (by omega) (by omega) (by rw [txt_size]; omega)]
  rw [Int.toNat_natCast, Int.toNat_natCast]
  show Result.ok (Value.string ((ByteArray.mk s.toArray).extract i j)) W = _
  rw [ByteArray.extract_mk]
  rfl
end Go.Proofs.Ythoblabimkfjpaa
