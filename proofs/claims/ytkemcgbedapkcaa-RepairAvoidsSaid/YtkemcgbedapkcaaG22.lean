/- Merged: CtB CtC CtD. -/
import Derived.Test.YtkemcgbedapkcaaG10
import Derived.Test.YtkemcgbedapkcaaG27
import Derived.Test.YtkemcgbedapkcaaG21
import Derived.Maps.OwnSet
import Derived.DeepKeys4
import Derived.WalkSpells
/- expand's map: which state stands at which key. -/
namespace Go.Proofs.Ytkemcgbedapkcaa
open Go.RowKit
set_option maxHeartbeats 6400000
set_option maxRecDepth 100000
theorem laid17 : laidOutB Try.prog = true := by kernel_rfl
theorem key_row : (133 : TypeId) < Try.prog.types.size := of_decide_eq_true (by kernel_rfl)
theorem key_wide : (match Try.prog.underlying 133 with | some (.array _ _) | some (.struct _) => true | _ => false) = true := by kernel_rfl
theorem key_law : Maps.Keyed Try.prog 133 := Maps.Keyed.of_law (deep_law_laid laid17 (m := 4) (by omega) key_row (by kernel_rfl) key_wide)
abbrev Ky := (Int × Int) × Sg
def keyL (a : Ky) : Lit := .string (keyBytes [.int .i64 a.1.1, .int .i64 a.1.2, .bool a.2.edge, .int .i64 a.2.too])
def KyOk (a : Ky) : Prop := In64 a.1.1 ∧ In64 a.1.2 ∧ In64 a.2.too
theorem key_int (d : Nat) {a : Int} (h : In64 a) : Try.prog.keyLits (d + 1) 3 [.int .i64 a] = some [.int .i64 a] := by
  have h1 := WalkArith.wf_i64 h
  simp [Program.keyLits, Try.underlying3, h1]
theorem key_bool (d : Nat) (e : Bool) : Try.prog.keyLits (d + 1) 4 [.bool e] = some [.bool e] := by simp [Program.keyLits, Try.underlying4]
theorem key_arr (d : Nat) {a b : Int} (ha : In64 a) (hb : In64 b) : Try.prog.keyLits (d + 2) 92 [.int .i64 a, .int .i64 b] = some [.int .i64 a, .int .i64 b] := by
  have c2 : Try.prog.cellsOf 92 = 2 := by kernel_rfl
  have c4 : Try.prog.cellsOf 3 = 1 := by kernel_rfl
  rw [Program.keyLits.eq_def]
  simp only [Try.underlying92]
  rw [if_pos (by rw [c2]; rfl), c4]
  simp [List.range_succ, key_int d ha, key_int d hb]
theorem key_seg (d : Nat) (e : Bool) {b : Int} (hb : In64 b) : Try.prog.keyLits (d + 2) 46 [.bool e, .int .i64 b] = some [.bool e, .int .i64 b] := by
  have c3 : Try.prog.cellsOf 46 = 2 := by kernel_rfl
  have c4 : Try.prog.cellsOf 3 = 1 := by kernel_rfl
  have c5 : Try.prog.cellsOf 4 = 1 := by kernel_rfl
  rw [Program.keyLits.eq_def]
  simp only [Try.underlying46]
  rw [if_pos ⟨by rw [c3]; rfl, by kernel_rfl⟩]
  simp [c4, c5, key_int d hb, key_bool d e]
theorem key_deep (d : Nat) (a : Ky) (h : KyOk a) : Try.prog.keyLits (d + 4) 133 [.int .i64 a.1.1, .int .i64 a.1.2, .bool a.2.edge, .int .i64 a.2.too] = some [.int .i64 a.1.1, .int .i64 a.1.2, .bool a.2.edge, .int .i64 a.2.too] := by
  have c1 : Try.prog.cellsOf 133 = 4 := by kernel_rfl
  have c2 : Try.prog.cellsOf 92 = 2 := by kernel_rfl
  have c3 : Try.prog.cellsOf 46 = 2 := by kernel_rfl
  rw [Program.keyLits.eq_def]
  simp only [Try.underlying133]
  rw [if_pos ⟨by rw [c1]; rfl, by kernel_rfl⟩]
  simp [c2, c3, key_arr (d + 1) h.1 h.2.1, key_seg (d + 1) a.2.edge h.2.2]
theorem key_of {a : Ky} (h : KyOk a) : keyOf Try.prog 133 (.agg #[.int .i64 a.1.1, .int .i64 a.1.2, .bool a.2.edge, .int .i64 a.2.too]) = some (keyL a) := by
  have hk : Try.prog.keyType 133 = true := by kernel_rfl
  have c1 : Try.prog.cellsOf 133 = 4 := by kernel_rfl
  have hf : (Value.agg #[.int .i64 a.1.1, .int .i64 a.1.2, .bool a.2.edge, .int .i64 a.2.too]).formed Try.prog 133 = true := by simp [Value.formed, Try.underlying133, c1]
  obtain ⟨d, hd⟩ : ∃ d, Try.prog.types.size + 1 = d + 4 := ⟨Try.prog.types.size - 3, by have : 3 ≤ Try.prog.types.size := of_decide_eq_true (by kernel_rfl); omega⟩
  unfold keyOf
  simp only [Try.underlying133, hk, hf, Bool.and_self, if_true, hd]
  have := key_deep d a h
  simp only [Value.cells]
  rw [this]
  rfl
theorem keyL_inj {a b : Ky} (ha : KyOk a) (hb : KyOk b) (h : keyL a = keyL b) : a = b := by
  have h1 := key_law.inj (key_of ha) (h ▸ key_of hb)
  obtain ⟨⟨a1, a2⟩, ⟨a3, a4⟩⟩ := a
  obtain ⟨⟨b1, b2⟩, ⟨b3, b4⟩⟩ := b
  simp at h1
  obtain ⟨rfl, rfl, rfl, rfl⟩ := h1
  rfl
/-- How an element reads. -/
def endE (v : Value) : Option (DataW Unit × List MemPlace) :=
  match v with
  | .agg cs => (match cs.toList with
    | [.int .i64 a, .int .i64 b, .bool c] => some (.agg [.lit (.int .i64 a), .lit (.int .i64 b), .lit (.bool c)], [])
    | _ => none)
  | _ => none
theorem endE_mk (a b : Int) (c : Bool) : endE (.agg #[.int .i64 a, .int .i64 b, .bool c]) = some (.agg [.lit (.int .i64 a), .lit (.int .i64 b), .lit (.bool c)], []) := rfl
theorem endE_inv {v : Value} {a b : Int} {c : Bool} {ps : List MemPlace} (h : endE v = some (.agg [.lit (.int .i64 a), .lit (.int .i64 b), .lit (.bool c)], ps)) : v = .agg #[.int .i64 a, .int .i64 b, .bool c] := by
  unfold endE at h
  split at h
  · rename_i cs
    split at h
    · rename_i hcs
      simp at h
      obtain ⟨⟨rfl, rfl, rfl⟩, _⟩ := h
      congr
      exact Array.toList_inj.1 hcs
    · cases h
  · cases h
def endT (o : Option (Int × Int)) : Int × Int × Bool :=
  match o with
  | some q => (q.1, q.2, true)
  | none => (0, 0, false)
def endD (o : Option (Int × Int)) : DataW Unit := .agg [.lit (.int .i64 (endT o).1), .lit (.int .i64 (endT o).2.1), .lit (.bool (endT o).2.2)]
section
variable (N : Nat) (l : List Lnk) (x : Wnt) (gn : List Bool)
def InK (a : Ky) : Prop := InS N x a.1 ∧ a.2 ∈ segsS N l
/-- What the map has: at some keys, what they lead to. -/
def MapOk (M : Nat) (w : World) : Prop :=
  ∃ (D : DataW Unit) (acc : List Ky), w.ownsMap Try.prog 133 endE M (Maps.size D) D ∧ Maps.size D ≤ acc.length ∧ acc.Nodup ∧ (∀ a ∈ acc, InK N l x a) ∧
    (∀ a, InK N l x a → (Maps.has D (keyL a) = true ↔ a ∈ acc)) ∧ ∀ a ∈ acc, ∀ z, D.atKey (keyL a) z = endD (segO N l x gn a.1 a.2.edge a.2.too)
variable {N l x gn}
theorem InK.ok (hN : N ≤ 10) (hl : l.length ≤ 16) (hv : x.via.length ≤ 4) {a : Ky} (h : InK N l x a) : KyOk a := by
  obtain ⟨⟨h1, h2, h3, h4⟩, h5⟩ := h
  have hp := ptsS_len x
  unfold segsS at h5
  refine ⟨⟨by omega, by omega⟩, ⟨by omega, by omega⟩, ?_⟩
  rcases List.mem_append.1 h5 with h5 | h5 <;>
    (obtain ⟨i, hi, he⟩ := List.mem_map.1 h5; have h6 := List.mem_range.1 hi; rw [← he]; constructor <;> (simp only; omega))
theorem ky_le (hN : N ≤ 10) (hl : l.length ≤ 16) (hv : x.via.length ≤ 4) {acc : List Ky} (hn : acc.Nodup) (h : ∀ a ∈ acc, InK N l x a) : acc.length ≤ 3840 := by
  have hp := ptsS_len x
  have h1 := nodup_le 3840 (acc.map fun a => (a.1.1.toNat * 6 + a.1.2.toNat) * 64 + sgN N a.2) (by
    refine List.pairwise_map.2 (List.Pairwise.imp_of_mem (fun {a b} ha hb hab => ?_) hn)
    intro e
    obtain ⟨h1, h2⟩ := h a ha
    obtain ⟨h3, h4⟩ := h b hb
    have h5 := sgN_lt h2
    have h6 := sgN_lt h4
    unfold InS at h1 h3
    have h7 : sgN N a.2 = sgN N b.2 := by omega
    have h8 := sgN_inj h2 h4 h7
    refine hab (Prod.ext (Prod.ext ?_ ?_) h8) <;> omega) (fun u hu => by
    obtain ⟨a, ham, rfl⟩ := List.mem_map.1 hu
    obtain ⟨h1, h2⟩ := h a ham
    have h5 := sgN_lt h2
    unfold InS at h1
    omega)
  rwa [List.length_map] at h1
theorem MapOk.made (w : World) : MapOk N l x gn w.heap.size (w.alloc (.map #[] 0)) :=
  ⟨.map [], [], World.ownsMap_made w _ _ _, Nat.le_refl _, List.nodup_nil, fun a ha => absurd ha List.not_mem_nil, fun a _ => ⟨fun h => (by cases h), fun h => absurd h List.not_mem_nil⟩, fun a ha => absurd ha List.not_mem_nil⟩
theorem MapOk.kept {M : Nat} {w w' : World} (h : MapOk N l x gn M w) (hb : Below w.heap.size w w') : MapOk N l x gn M w' := by
  obtain ⟨D, acc, h1, h2⟩ := h
  refine ⟨D, acc, ?_, h2⟩
  obtain ⟨es, ck, hb0, r⟩ := h1
  exact ⟨es, ck, (hb.block M (Array.getElem?_eq_some_iff.1 hb0).1).trans hb0, r⟩
theorem MapOk.lt {M : Nat} {w : World} (h : MapOk N l x gn M w) : M < w.heap.size := by
  obtain ⟨D, acc, h1, _⟩ := h
  exact h1.lt
theorem MapOk.isMap {M : Nat} {w : World} (h : MapOk N l x gn M w) : ∃ es ck, w.heap[M]? = some (.map es ck) := by
  obtain ⟨D, acc, ⟨es, ck, h1, _⟩, _⟩ := h
  exact ⟨es, ck, h1⟩
theorem own_tight {w : World} {M n : Nat} {D : DataW Unit} (h : w.ownsMap Try.prog 133 endE M n D) : w.ownsMap Try.prog 133 endE M (Maps.size D) D := by
  obtain ⟨es, ck, h1, F, h2, rfl⟩ := h
  exact ⟨es, ck, h1, F, by simp [Maps.size, length_sorted], rfl⟩
theorem MapOk.put {M : Nat} {w w' : World} {D : DataW Unit} {acc : List Ky} {a : Ky} (hN : N ≤ 10) (hl : l.length ≤ 16) (hv : x.via.length ≤ 4) (hown : w.ownsMap Try.prog 133 endE M (Maps.size D) D) (hsz : Maps.size D ≤ acc.length) (hnd : acc.Nodup) (hin : ∀ a ∈ acc, InK N l x a)
    (hhas : ∀ a, InK N l x a → (Maps.has D (keyL a) = true ↔ a ∈ acc)) (hat : ∀ a ∈ acc, ∀ z, D.atKey (keyL a) z = endD (segO N l x gn a.1 a.2.edge a.2.too)) (ha : InK N l x a)
    (h' : w'.ownsMap Try.prog 133 endE M (Maps.size D + 1) (D.put (keyL a) (endD (segO N l x gn a.1 a.2.edge a.2.too)))) : MapOk N l x gn M w' := by
  have hk := ha.ok hN hl hv
  have hkl := key_law.key (key_of hk)
  have hm := hown.isMap
  have hT := hown.tidy key_law
  have hinj : ∀ b, InK N l x b → b ≠ a → keyL b ≠ keyL a := fun b hb hne e => hne (keyL_inj (hb.ok hN hl hv) hk e)
  have hs := Maps.size_put (k := keyL a) hT (endD (segO N l x gn a.1 a.2.edge a.2.too))
  by_cases hma : a ∈ acc
  · rw [if_pos ((hhas a ha).2 hma)] at hs
    refine ⟨_, acc, own_tight h', by rw [hs]; exact hsz, hnd, hin, fun b hb => ?_, fun b hb z => ?_⟩
    · by_cases hba : b = a
      · subst hba; exact ⟨fun _ => hma, fun _ => Maps.has_put_same hm hkl _⟩
      · rw [Maps.has_put_other (hinj b hb hba)]; exact hhas b hb
    · by_cases hba : b = a
      · subst hba; exact Maps.atKey_put_same hm hkl _ _
      · rw [Maps.atKey_put_other (hinj b (hin b hb) hba)]; exact hat b hb z
  · refine ⟨_, acc ++ [a], own_tight h', ?_, ?_, ?_, fun b hb => ?_, fun b hb z => ?_⟩
    · rw [hs, List.length_append, List.length_singleton]; split <;> omega
    · rw [List.nodup_append]
      refine ⟨hnd, by simp, fun u hu v hv' e => ?_⟩
      obtain rfl : v = a := by simpa using hv'
      exact hma (e ▸ hu)
    · intro b hb
      rcases List.mem_append.1 hb with hb | hb
      · exact hin b hb
      · obtain rfl : b = a := by simpa using hb
        exact ha
    · by_cases hba : b = a
      · subst hba; exact ⟨fun _ => by simp, fun _ => Maps.has_put_same hm hkl _⟩
      · rw [Maps.has_put_other (hinj b hb hba), hhas b hb]
        constructor
        · intro h; exact List.mem_append_left _ h
        · intro h
          rcases List.mem_append.1 h with h | h
          · exact h
          · exact (hba (by simpa using h)).elim
    · by_cases hba : b = a
      · subst hba; exact Maps.atKey_put_same hm hkl _ _
      · have hbm : b ∈ acc := by
          rcases List.mem_append.1 hb with h | h
          · exact h
          · exact (hba (by simpa using h)).elim
        rw [Maps.atKey_put_other (hinj b (hin b hbm) hba)]; exact hat b hbm z
end
/-! ### at the operation -/
theorem end_zero (w : World) : (zeroValue 135).run Try.prog w = .ok (.agg #[.int .i64 0, .int .i64 0, .bool false]) w := by kernel_rfl
section
variable {N : Nat} {l : List Lnk} {x : Wnt} {gn : List Bool} (w : World) {ops : Array Oper} {rest : List Oper} {o : Oper} {ac : Act} {Q : Exit → Act → World → Prop}
/-- 'known, ok := g.found[this]'. -/
theorem look_map (hg : o.guard = none) (m y : Operand) (hop : o.op = Op.lookup 80 m y true) (M : Nat) (h : MapOk N l x gn M w) (hN : N ≤ 10) (hl : l.length ≤ 16) (hv : x.via.length ≤ 4) (p1 p2 : Int) (e : Bool) (t : Int) (ha : InK N l x ((p1, p2), ⟨e, t⟩))
    (hm : ac.eval m = .map (some M)) (hx : ac.eval y = .agg #[.int .i64 p1, .int .i64 p2, .bool e, .int .i64 t]) (q1 q2 : Int) (ok : Bool) (hq : endT (segO N l x gn (p1, p2) e t) = (q1, q2, ok))
    (hK1 : wpList Try.prog ops Q rest (ac.put o.dst (.tuple #[.agg #[.int .i64 q1, .int .i64 q2, .bool ok], .bool true])) w)
    (hK0 : wpList Try.prog ops Q rest (ac.put o.dst (.tuple #[.agg #[.int .i64 0, .int .i64 0, .bool false], .bool false])) w) : wpList Try.prog ops Q (o :: rest) ac w := by
  obtain ⟨D, acc, hown, hsz, hnd, hin, hhas, hat⟩ := h
  refine wpList_lookup_own_ok w hg m y 80 hop 133 135 key_law Try.underlying80 endE (end_zero w) _ [] (endE_mk 0 0 false) M _ D hm hown _ _ hx (key_of (a := ((p1, p2), ⟨e, t⟩)) (ha.ok hN hl hv)) ?_
  intro v ps hvv
  cases hh : Maps.has D (keyL ((p1, p2), ⟨e, t⟩)) with
  | true =>
    rw [hat _ ((hhas _ ha).1 hh)] at hvv
    have := endE_inv hvv
    rw [hq] at this
    rw [this]
    exact hK1
  | false =>
    rw [Maps.atKey_of_not_has hh] at hvv
    rw [endE_inv hvv]
    exact hK0
/-- 'g.found[this] = known'. -/
theorem store_map (hg : o.guard = none) (m y v : Operand) (hop : o.op = Op.mapUpdate 80 m y v) (M : Nat) (h : MapOk N l x gn M w) (hN : N ≤ 10) (hl : l.length ≤ 16) (hv : x.via.length ≤ 4) (p1 p2 : Int) (e : Bool) (t : Int) (ha : InK N l x ((p1, p2), ⟨e, t⟩))
    (hm : ac.eval m = .map (some M)) (hx : ac.eval y = .agg #[.int .i64 p1, .int .i64 p2, .bool e, .int .i64 t]) (q1 q2 : Int) (ok : Bool) (hq : endT (segO N l x gn (p1, p2) e t) = (q1, q2, ok)) (hvl : ac.eval v = .agg #[.int .i64 q1, .int .i64 q2, .bool ok])
    (hK : ∀ w', MapOk N l x gn M w' → But M w w' → w'.heap.size = w.heap.size → wpList Try.prog ops Q rest (ac.put o.dst undef) w') : wpList Try.prog ops Q (o :: rest) ac w := by
  obtain ⟨D, acc, hown, hsz, hnd, hin, hhas, hat⟩ := h
  have hle := ky_le hN hl hv hnd hin
  refine wpList_plain hg fun K' hK' => ?_
  obtain ⟨w', hrun, r1, r2⟩ := hown.store key_law Try.underlying80 (by unfold maxLen; omega) (key := .agg #[.int .i64 p1, .int .i64 p2, .bool e, .int .i64 t]) (val := .agg #[.int .i64 q1, .int .i64 q2, .bool ok]) (key_of (a := ((p1, p2), ⟨e, t⟩)) (ha.ok hN hl hv)) (endE_mk q1 q2 ok)
  unfold Oper.wp
  simp [execOp, hop, hm, hx, hvl, hrun, Result.andThen]
  have hd : (DataW.agg [.lit (.int .i64 q1), .lit (.int .i64 q2), .lit (.bool ok)] : DataW Unit) = endD (segO N l x gn (p1, p2) e t) := by unfold endD; rw [hq]
  rw [hd] at r1
  refine hK' _ _ (hK w' (MapOk.put (a := ((p1, p2), ⟨e, t⟩)) hN hl hv hown hsz hnd hin hhas hat ha r1) ?_ ?_)
  · obtain ⟨es, ck, es', ck', hb, rfl⟩ := r2
    exact ⟨rfl, rfl, rfl, by simp [ChangeMaps.setBlock], fun g _ hne => ChangeMaps.heap_setBlock_other hb _ hne⟩
  · obtain ⟨es, ck, es', ck', hb, rfl⟩ := r2
    simp [ChangeMaps.setBlock]
end
end Go.Proofs.Ytkemcgbedapkcaa

/- expand: what a guide is, and what stays of it. -/
namespace Go.Proofs.Ytkemcgbedapkcaa
open Go.RowKit
set_option maxHeartbeats 6400000
set_option maxRecDepth 100000
theorem box8_cells {w : World} {B : Nat} {x0 x1 x2 x3 x4 x5 x6 x7 : Value} {T : TypeId} (h : w.heap[B]? = some (.cells #[x0, x1, x2, x3, x4, x5, x6, x7] T (0, 0))) : w.cell? ⟨B, 0, none⟩ = some x0 ∧ w.cell? ⟨B, 1, none⟩ = some x1 ∧ w.cell? ⟨B, 2, none⟩ = some x2 ∧ w.cell? ⟨B, 3, none⟩ = some x3 ∧ w.cell? ⟨B, 4, none⟩ = some x4 ∧ w.cell? ⟨B, 5, none⟩ = some x5 ∧ w.cell? ⟨B, 6, none⟩ = some x6 ∧ w.cell? ⟨B, 7, none⟩ = some x7 :=
  ⟨by rw [cell_of_row _ _ _ _ _ _ h]; rfl, by rw [cell_of_row _ _ _ _ _ _ h]; rfl, by rw [cell_of_row _ _ _ _ _ _ h]; rfl, by rw [cell_of_row _ _ _ _ _ _ h]; rfl, by rw [cell_of_row _ _ _ _ _ _ h]; rfl, by rw [cell_of_row _ _ _ _ _ _ h]; rfl, by rw [cell_of_row _ _ _ _ _ _ h]; rfl, by rw [cell_of_row _ _ _ _ _ _ h]; rfl⟩
theorem box4_cells {w : World} {B : Nat} {x0 x1 x2 x3 : Value} {T : TypeId} (h : w.heap[B]? = some (.cells #[x0, x1, x2, x3] T (0, 0))) : w.cell? ⟨B, 0, none⟩ = some x0 ∧ w.cell? ⟨B, 1, none⟩ = some x1 ∧ w.cell? ⟨B, 2, none⟩ = some x2 ∧ w.cell? ⟨B, 3, none⟩ = some x3 ∧ ∀ j, w.frozen? ⟨B, j, none⟩ = false :=
  ⟨by rw [cell_of_row _ _ _ _ _ _ h]; rfl, by rw [cell_of_row _ _ _ _ _ _ h]; rfl, by rw [cell_of_row _ _ _ _ _ _ h]; rfl, by rw [cell_of_row _ _ _ _ _ _ h]; rfl, fun j => frozen_of_row _ _ _ _ _ h⟩
theorem box3_put {w : World} {B : Nat} {x0 x1 x2 y0 y1 y2 : Value} {T : TypeId} (h : w.heap[B]? = some (.cells #[x0, x1, x2] T (0, 0))) : (((w.setCell ⟨B, 0, none⟩ y0).setCell ⟨B, 1, none⟩ y1).setCell ⟨B, 2, none⟩ y2).heap[B]? = some (.cells #[y0, y1, y2] T (0, 0)) := by
  have s0 := heap_setCell_same w B 0 _ T y0 h
  have s1 := heap_setCell_same _ B 1 _ T y1 s0
  have s2 := heap_setCell_same _ B 2 _ T y2 s1
  simpa using s2
theorem but_put3 {w : World} {B : Nat} {y0 y1 y2 : Value} : But B w (((w.setCell ⟨B, 0, none⟩ y0).setCell ⟨B, 1, none⟩ y1).setCell ⟨B, 2, none⟩ y2) := (But.set.trans But.set).trans But.set
theorem box_but {w w' : World} {B M : Nat} {o : Obj} (h : w.heap[B]? = some o) (hb : But M w w') (hne : B ≠ M) : w'.heap[B]? = some o := (hb.block B (blk_lt h) hne).trans h
/-- The tables, the graph and the best walks of a guide. -/
structure GdAt (w : World) (N : Nat) (l : List Lnk) (x : Wnt) (gn : List Bool) (tp : Addr) (A : Option Addr) (n c : Nat) (Ap : Option Addr) (cp : Nat) (Ag : Option Addr) (cg : Nat) (Df : Option Addr) (cf kk : Nat) : Prop where
  tab : TabAt w tp N l
  grf : GArg w (N : Int) A n c l
  bst : ∃ vs, BestAt w (N : Int) n l x gn Ap cp Ag cg (.slice Df (kk + 1) cf) vs
  via : x.via.length = kk
section
variable {N : Nat} {l : List Lnk} {x : Wnt} {gn : List Bool} {tp : Addr} {A : Option Addr} {n c : Nat} {Ap : Option Addr} {cp : Nat} {Ag : Option Addr} {cg : Nat} {Df : Option Addr} {cf kk : Nat}
theorem GdAt.on {w w' : World} (h : GdAt w N l x gn tp A n c Ap cp Ag cg Df cf kk) (hb : Below w.heap.size w w') : GdAt w' N l x gn tp A n c Ap cp Ag cg Df cf kk :=
  ⟨tabAt_keep w w' tp N l h.tab hb, h.grf.on hb, h.bst.elim fun vs hv => ⟨vs, hv.on hb⟩, h.via⟩
/-- A guide whose map lies in block M: all else of it lies below. -/
def GW (M : Nat) (N : Nat) (l : List Lnk) (x : Wnt) (gn : List Bool) (tp : Addr) (A : Option Addr) (n c : Nat) (Ap : Option Addr) (cp : Nat) (Ag : Option Addr) (cg : Nat) (Df : Option Addr) (cf kk : Nat) (w : World) : Prop := ∃ w0 : World, w0.heap.size = M ∧ GdAt w0 N l x gn tp A n c Ap cp Ag cg Df cf kk ∧ Below M w0 w ∧ MapOk N l x gn M w
theorem GW.at {M : Nat} {w : World} (h : GW M N l x gn tp A n c Ap cp Ag cg Df cf kk w) : GdAt w N l x gn tp A n c Ap cp Ag cg Df cf kk := by
  obtain ⟨w0, h1, h2, h3, _⟩ := h
  exact h2.on (h1 ▸ h3)
theorem GW.map {M : Nat} {w : World} (h : GW M N l x gn tp A n c Ap cp Ag cg Df cf kk w) : MapOk N l x gn M w := h.elim fun _ h => h.2.2.2
theorem GW.lt {M : Nat} {w : World} (h : GW M N l x gn tp A n c Ap cp Ag cg Df cf kk w) : M < w.heap.size := h.map.lt
theorem GW.next {M : Nat} {w w' : World} (h : GW M N l x gn tp A n c Ap cp Ag cg Df cf kk w) (hb : Below w.heap.size w w') : GW M N l x gn tp A n c Ap cp Ag cg Df cf kk w' := by
  have hlt := h.lt
  obtain ⟨w0, h1, h2, h3, h4⟩ := h
  exact ⟨w0, h1, h2, h3.trans (hb.mono (Nat.le_of_lt hlt)), h4.kept hb⟩
/-- Some blocks turn, none of them below the map's, nor it. -/
theorem GW.above {M k : Nat} {w w' : World} (h : GW M N l x gn tp A n c Ap cp Ag cg Df cf kk w) (hb : Below k w w') (hk : M < k) : GW M N l x gn tp A n c Ap cp Ag cg Df cf kk w' := by
  obtain ⟨w0, h1, h2, h3, h4⟩ := h
  refine ⟨w0, h1, h2, h3.trans (hb.mono (Nat.le_of_lt hk)), ?_⟩
  obtain ⟨D, acc, h5, h6⟩ := h4
  obtain ⟨es, ck, hb0, r⟩ := h5
  exact ⟨D, acc, ⟨es, ck, (hb.block M hk).trans hb0, r⟩, h6⟩
theorem GW.put {M : Nat} {w w' : World} (h : GW M N l x gn tp A n c Ap cp Ag cg Df cf kk w) (hb : But M w w') (hm : MapOk N l x gn M w') : GW M N l x gn tp A n c Ap cp Ag cg Df cf kk w' := by
  have hlt := h.lt
  obtain ⟨w0, h1, h2, h3, h4⟩ := h
  exact ⟨w0, h1, h2, h3.trans (hb.below (Nat.le_refl _) (Nat.le_of_lt hlt)), hm⟩
theorem GW.made {w : World} (h : GdAt w N l x gn tp A n c Ap cp Ag cg Df cf kk) : GW w.heap.size N l x gn tp A n c Ap cp Ag cg Df cf kk (w.alloc (.map #[] 0)) :=
  ⟨w, rfl, h, (Below.refl _ w).alloc (Nat.le_refl _) _, MapOk.made w⟩
theorem But.mix {M k : Nat} {w w' w'' : World} (h : But M w w') (hb : Below k w' w'') (hk : w.heap.size ≤ k) : But M w w'' :=
  ⟨hb.os.trans h.os, hb.tape.trans h.tape, hb.output.trans h.output, Nat.le_trans h.size hb.size, fun g hg hne => (hb.block g (Nat.lt_of_lt_of_le hg hk)).trans (h.block g hg hne)⟩
end
theorem tnext_any {w : World} {p : Addr} {N : Nat} {l : List Lnk} (a b : Int) (h : TabAt w p N l) (hok : GOk N l) : Calls Try.prog 89 #[.pointer (some p), .int .i64 a, .int .i64 b] w (RowAns (nextT N l a b) w) := by
  obtain ⟨BT, A', n, c', A7, c7, ps, rfl, h⟩ := h
  exact next2_any BT A' n c' A7 c7 ps N l a b w h hok
theorem tgraph_any {w : World} {p : Addr} {N : Nat} {l : List Lnk} (h : TabAt w p N l) (hok : GOk N l) : Calls Try.prog 19 #[.pointer (some p)] w fun e w' => ∃ A c, e = .returned (.agg #[.int .i64 (N : Int), .slice A l.length c]) ∧ RLnk w' w'.heap.size A l.length l ∧ Below w.heap.size w w' := by
  obtain ⟨BT, A', n, c', A7, c7, ps, rfl, h⟩ := h
  exact graph_any BT A' n c' A7 c7 ps N l w h hok
end Go.Proofs.Ytkemcgbedapkcaa

/- expand: Seg, over endOf. -/
namespace Go.Proofs.Ytkemcgbedapkcaa
open Go.RowKit
set_option maxHeartbeats 12800000
set_option maxRecDepth 100000
theorem alloc_at {w : World} {B : Nat} {o X : Obj} (h : w.heap[B]? = some X) : (w.alloc o).heap[B]? = some X := (Below.heap_alloc _ _ _ (blk_lt h)).trans h
theorem alloc_new {w : World} {o : Obj} {k : Nat} (h : w.heap.size = k) : (w.alloc o).heap[k]? = some o := h ▸ heap_alloc_new w o
theorem alloc_sz {w : World} {o : Obj} {k : Nat} (h : w.heap.size = k) : (w.alloc o).heap.size = k + 1 := by rw [← h]; simp
section
variable {N : Nat} {l : List Lnk} {x : Wnt} {gn : List Bool} {tp : Addr} {A : Option Addr} {n c : Nat} {Ap : Option Addr} {cp : Nat} {Ag : Option Addr} {cg : Nat} {Df : Option Addr} {cf kk : Nat}
/-- Seg's boxes. -/
structure SgB (M : Nat) (N : Nat) (l : List Lnk) (x : Wnt) (gn : List Bool) (tp : Addr) (A : Option Addr) (n c : Nat) (Ap : Option Addr) (cp : Nat) (Ag : Option Addr) (cg : Nat) (Df : Option Addr) (cf kk : Nat) (s p1 p2 : Int) (e : Bool) (t : Int) (w w' : World) : Prop where
  x0 : w'.heap[w.heap.size]? = some (.cells #[.pointer (some tp), .int .i64 (N : Int), .slice A n c, .slice Ap (kk + 2) cp, .slice Ag n cg, .slice Df (kk + 1) cf, .int .i64 s, .map (some M)] 82 (0, 0))
  x3 : w'.heap[w.heap.size + 1 + 1 + 1]? = some (.cells #[.int .i64 0, .int .i64 0] 92 (0, 0))
  x4 : w'.heap[w.heap.size + 1 + 1 + 1 + 1]? = some (.cells #[.int .i64 p1, .int .i64 p2, .bool e, .int .i64 t] 133 (0, 0))
  gw : GW M N l x gn tp A n c Ap cp Ag cg Df cf kk w'
  but : But M w w'
  lt : M < w.heap.size
theorem SgB.start {M : Nat} {s p1 p2 : Int} {e : Bool} {t : Int} {w : World} (h : GW M N l x gn tp A n c Ap cp Ag cg Df cf kk w) :
    SgB M N l x gn tp A n c Ap cp Ag cg Df cf kk s p1 p2 e t w (((((w.alloc (.cells #[.pointer (some tp), .int .i64 (N : Int), .slice A n c, .slice Ap (kk + 2) cp, .slice Ag n cg, .slice Df (kk + 1) cf, .int .i64 s, .map (some M)] 82)).alloc (.cells #[.int .i64 p1, .int .i64 p2] 92)).alloc (.cells #[.bool e, .int .i64 t] 46)).alloc (.cells #[.int .i64 0, .int .i64 0] 92)).alloc (.cells #[.int .i64 p1, .int .i64 p2, .bool e, .int .i64 t] 133)) := by
  have hb := (((((Below.refl w.heap.size w).alloc (Nat.le_refl _) (.cells #[.pointer (some tp), .int .i64 (N : Int), .slice A n c, .slice Ap (kk + 2) cp, .slice Ag n cg, .slice Df (kk + 1) cf, .int .i64 s, .map (some M)] 82)).alloc (by simp) (.cells #[.int .i64 p1, .int .i64 p2] 92)).alloc (by simp; omega) (.cells #[.bool e, .int .i64 t] 46)).alloc (by simp; omega) (.cells #[.int .i64 0, .int .i64 0] 92)).alloc (by simp; omega) (.cells #[.int .i64 p1, .int .i64 p2, .bool e, .int .i64 t] 133)
  refine ⟨alloc_at (alloc_at (alloc_at (alloc_at (alloc_new rfl)))), alloc_at (alloc_new (alloc_sz (alloc_sz (alloc_sz rfl)))), alloc_new (alloc_sz (alloc_sz (alloc_sz (alloc_sz rfl)))), h.next hb, But.of hb, h.lt⟩
theorem SgB.size0 {M : Nat} {s p1 p2 : Int} {e : Bool} {t : Int} {w : World} : (((((w.alloc (.cells #[.pointer (some tp), .int .i64 (N : Int), .slice A n c, .slice Ap (kk + 2) cp, .slice Ag n cg, .slice Df (kk + 1) cf, .int .i64 s, .map (some M)] 82)).alloc (.cells #[.int .i64 p1, .int .i64 p2] 92)).alloc (.cells #[.bool e, .int .i64 t] 46)).alloc (.cells #[.int .i64 0, .int .i64 0] 92)).alloc (.cells #[.int .i64 p1, .int .i64 p2, .bool e, .int .i64 t] 133)).heap.size = w.heap.size + 1 + 1 + 1 + 1 + 1 :=
  alloc_sz (alloc_sz (alloc_sz (alloc_sz (alloc_sz rfl))))
theorem SgB.put {M : Nat} {s p1 p2 : Int} {e : Bool} {t : Int} {w w' w'' : World} (h : SgB M N l x gn tp A n c Ap cp Ag cg Df cf kk s p1 p2 e t w w') (hb : But M w' w'') (hg : GW M N l x gn tp A n c Ap cp Ag cg Df cf kk w'') : SgB M N l x gn tp A n c Ap cp Ag cg Df cf kk s p1 p2 e t w w'' :=
  ⟨box_but h.x0 hb (by have := h.lt; omega), box_but h.x3 hb (by have := h.lt; omega), box_but h.x4 hb (by have := h.lt; omega), hg, h.but.trans hb, h.lt⟩
theorem below_put3 {B k : Nat} {w w' : World} {y0 y1 y2 : Value} (h : Below k w w') (hB : k ≤ B) : Below k w (((w'.setCell ⟨B, 0, none⟩ y0).setCell ⟨B, 1, none⟩ y1).setCell ⟨B, 2, none⟩ y2) := ((h.setCell hB _).setCell hB _).setCell hB _
theorem SgB.set3 {M : Nat} {s p1 p2 : Int} {e : Bool} {t : Int} {w w' : World} {B : Nat} {y0 y1 y2 : Value} (h : SgB M N l x gn tp A n c Ap cp Ag cg Df cf kk s p1 p2 e t w w') (hB : w.heap.size + 1 + 1 + 1 + 1 < B) : SgB M N l x gn tp A n c Ap cp Ag cg Df cf kk s p1 p2 e t w (((w'.setCell ⟨B, 0, none⟩ y0).setCell ⟨B, 1, none⟩ y1).setCell ⟨B, 2, none⟩ y2) := by
  have hb := below_put3 (y0 := y0) (y1 := y1) (y2 := y2) (Below.refl B w') (Nat.le_refl B)
  have := h.lt
  exact ⟨box_below h.x0 hb (by omega), box_below h.x3 hb (by omega), box_below h.x4 hb (by omega), h.gw.above hb (by omega), h.but.mix hb (by omega), h.lt⟩
theorem SgB.next {M : Nat} {s p1 p2 : Int} {e : Bool} {t : Int} {w w' w'' : World} (h : SgB M N l x gn tp A n c Ap cp Ag cg Df cf kk s p1 p2 e t w w') (hb : Below w'.heap.size w' w'') : SgB M N l x gn tp A n c Ap cp Ag cg Df cf kk s p1 p2 e t w w'' := h.put (But.of hb) (h.gw.next hb)
theorem SgB.fin {M : Nat} {s p1 p2 : Int} {e : Bool} {t : Int} {w w' : World} {u0 u1 : Value} (h : SgB M N l x gn tp A n c Ap cp Ag cg Df cf kk s p1 p2 e t w w') : GW M N l x gn tp A n c Ap cp Ag cg Df cf kk ((w'.setCell ⟨w.heap.size + 1 + 1 + 1, 0, none⟩ u0).setCell ⟨w.heap.size + 1 + 1 + 1, 1, none⟩ u1).drew ∧ But M w ((w'.setCell ⟨w.heap.size + 1 + 1 + 1, 0, none⟩ u0).setCell ⟨w.heap.size + 1 + 1 + 1, 1, none⟩ u1).drew := by
  obtain ⟨B, hB⟩ : ∃ B, w.heap.size + 1 + 1 + 1 = B := ⟨_, rfl⟩
  rw [hB]
  have hb : Below B w' ((w'.setCell ⟨B, 0, none⟩ u0).setCell ⟨B, 1, none⟩ u1).drew := (((Below.refl B w').setCell (p := ⟨B, 0, none⟩) (Nat.le_refl B) u0).setCell (p := ⟨B, 1, none⟩) (Nat.le_refl B) u1).drew
  have := h.lt
  exact ⟨h.gw.above hb (by omega), h.but.mix hb (by omega)⟩
end
theorem map_nil_no (M : Nat) (W : World) : (binOp .eql 80 (.map (some M)) (.map none)).run Try.prog W = .ok (.bool false) W := by
  exact run_eql_map_nil W _ _ _ (some M) Try.underlying80
section
variable {N : Nat} {l : List Lnk} {x : Wnt} {gn : List Bool} {tp : Addr} {A : Option Addr} {n c : Nat} {Ap : Option Addr} {cp : Nat} {Ag : Option Addr} {cg : Nat} {Df : Option Addr} {cf kk : Nat}
theorem seg_any (hN : N ≤ 10) (hl : l.length ≤ 16) (hv : x.via.length ≤ 4) {M : Nat} {s : Int} (p1 p2 : Int) (e : Bool) (t q1 q2 : Int) (ok : Bool) (ha : InK N l x ((p1, p2), ⟨e, t⟩)) (hq : endT (segO N l x gn (p1, p2) e t) = (q1, q2, ok))
    (HE : ∀ w, GW M N l x gn tp A n c Ap cp Ag cg Df cf kk w → Calls Try.prog 70 #[.agg #[.pointer (some tp), .int .i64 (N : Int), .slice A n c, .slice Ap (kk + 2) cp, .slice Ag n cg, .slice Df (kk + 1) cf, .int .i64 s, .map (some M)], .agg #[.int .i64 p1, .int .i64 p2, .bool e, .int .i64 t]] w fun e' w' => e' = .returned (.agg #[.int .i64 q1, .int .i64 q2, .bool ok]) ∧ GW M N l x gn tp A n c Ap cp Ag cg Df cf kk w' ∧ But M w w')
    (w : World) (h : GW M N l x gn tp A n c Ap cp Ag cg Df cf kk w) : Calls Try.prog 50 #[.agg #[.pointer (some tp), .int .i64 (N : Int), .slice A n c, .slice Ap (kk + 2) cp, .slice Ag n cg, .slice Df (kk + 1) cf, .int .i64 s, .map (some M)], .agg #[.int .i64 p1, .int .i64 p2], .agg #[.bool e, .int .i64 t]] w fun e' w' => e' = .returned (.tuple #[.agg #[.int .i64 q1, .int .i64 q2], .bool ok]) ∧ GW M N l x gn tp A n c Ap cp Ag cg Df cf kk w' ∧ But M w w' := by
  have hS := SgB.start (s := s) (p1 := p1) (p2 := p2) (e := e) (t := t) h
  have hlt := h.lt
  obtain ⟨g0, g1, g2, g3, g4, g5, g6, g7⟩ := box8_cells hS.x0
  obtain ⟨t0, t1, t2, t3, -⟩ := box4_cells hS.x4
  have qn := map_nil_no M
  have HS := hid hS
  have HE' := hid HE
  go_enter Try.func50, Try.ntmps50
  go_wp2_with (first
    | (at_lookup; refine look_map _ rfl _ _ rfl M HS.out.gw.map hN hl hv p1 p2 e t ha rfl rfl q1 q2 ok hq ?_ ?_)
    | (go_at_call 70; have HS6 := hid (HS.out.next ((Below.refl _ _).alloc (Nat.le_refl _) (.cells #[.int .i64 0, .int .i64 0, .bool false] 135))); have hx5 := alloc_new (o := .cells #[.int .i64 0, .int .i64 0, .bool false] 135) (SgB.size0 (N := N) (tp := tp) (A := A) (n := n) (c := c) (Ap := Ap) (cp := cp) (Ag := Ag) (cg := cg) (Df := Df) (cf := cf) (kk := kk) (M := M) (s := s) (p1 := p1) (p2 := p2) (e := e) (t := t) (w := w)); (with_reducible refine (HE'.out _ HS6.out.gw).mono ?_); rintro e' w6 ⟨rfl, hg6, hb6⟩; have HS7 := hid (HS6.out.put hb6 hg6); have HX7 := hid (box_but hx5 hb6 (by omega)); obtain ⟨k0, k1, k2, kf⟩ := box3_cells HX7.out; have f0 := kf 0; have f1 := kf 1; have f2 := kf 2; obtain ⟨g0, g1, g2, g3, g4, g5, g6, g7⟩ := box8_cells HS7.out.x0; obtain ⟨t0, t1, t2, t3, -⟩ := box4_cells HS7.out.x4; clear HS6 hx5 hg6 hb6 kf)
    | (at_mapUpdate; have HS8 := hid (HS7.out.set3 (B := w.heap.size + 1 + 1 + 1 + 1 + 1) (y0 := .int .i64 q1) (y1 := .int .i64 q2) (y2 := .bool ok) (Nat.lt_succ_self _)); have HX8 := hid (box3_put (y0 := .int .i64 q1) (y1 := .int .i64 q2) (y2 := .bool ok) HX7.out); refine store_map _ rfl _ _ _ rfl M HS8.out.gw.map hN hl hv p1 p2 e t ha rfl rfl q1 q2 ok hq rfl ?_; intro w9 hm9 hb9 hz9; have HS9 := hid (HS8.out.put hb9 (HS8.out.gw.put hb9 hm9)); have HX9 := hid (box_but HX8.out hb9 (by omega)); clear HS8 HX8 hm9 hb9 HS7 HX7 g0 g1 g2 g3 g4 g5 g6 g7 t0 t1 t2 t3 k0 k1 k2 f0 f1 f2))
  · have HS9' := hid (HS.out.next ((Below.refl _ _).alloc (Nat.le_refl _) (.cells #[.int .i64 q1, .int .i64 q2, .bool ok] 135)))
    have HX9' := hid (alloc_new (o := .cells #[.int .i64 q1, .int .i64 q2, .bool ok] 135) (SgB.size0 (N := N) (tp := tp) (A := A) (n := n) (c := c) (Ap := Ap) (cp := cp) (Ag := Ag) (cg := cg) (Df := Df) (cf := cf) (kk := kk) (M := M) (s := s) (p1 := p1) (p2 := p2) (e := e) (t := t) (w := w)))
    obtain ⟨w9, hw9⟩ : ∃ w9, ((((((w.alloc (.cells #[.pointer (some tp), .int .i64 (N : Int), .slice A n c, .slice Ap (kk + 2) cp, .slice Ag n cg, .slice Df (kk + 1) cf, .int .i64 s, .map (some M)] 82)).alloc (.cells #[.int .i64 p1, .int .i64 p2] 92)).alloc (.cells #[.bool e, .int .i64 t] 46)).alloc (.cells #[.int .i64 0, .int .i64 0] 92)).alloc (.cells #[.int .i64 p1, .int .i64 p2, .bool e, .int .i64 t] 133)).alloc (.cells #[.int .i64 q1, .int .i64 q2, .bool ok] 135)) = w9 := ⟨_, rfl⟩
    have HS9 := hid (hw9 ▸ HS9'.out)
    have HX9 := hid (hw9 ▸ HX9'.out)
    clear HS9' HX9' HS HE' g0 g1 g2 g3 g4 g5 g6 g7 t0 t1 t2 t3
    rw [hw9]
    clear hw9
    obtain ⟨k0, k1, k2, -⟩ := box3_cells HX9.out
    obtain ⟨r0, r1, r2⟩ := box_cells HS9.out.x3
    have f0 := r2 0
    have f1 := r2 1
    clear r2
    go_region_law fail
    all_goals
      go_wp2_with fail
      have hg := box_set1 (u := .int .i64 q2) (box_set0 (u := .int .i64 q1) HS9.out.x3)
      try simp only [Exit.inBlock, Exit.then]
      refine bodyPost_ret (results_cellrow_tmp (p := 6) (u := 7) (fn := Try.f50) rfl _ _ _ _ _ _ _ rfl hg Try.underlying92 rfl (by kernel_rfl)) rfl ?_
      exact ⟨rfl, HS9.out.fin⟩
  · obtain ⟨k0, k1, k2, -⟩ := box3_cells HX9.out
    obtain ⟨r0, r1, r2⟩ := box_cells HS9.out.x3
    have f0 := r2 0
    have f1 := r2 1
    clear r2
    go_region_law fail
    all_goals
      go_wp2_with fail
      have hg := box_set1 (u := .int .i64 q2) (box_set0 (u := .int .i64 q1) HS9.out.x3)
      try simp only [Exit.inBlock, Exit.then]
      refine bodyPost_ret (results_cellrow_tmp (p := 6) (u := 7) (fn := Try.f50) rfl _ _ _ _ _ _ _ rfl hg Try.underlying92 rfl (by kernel_rfl)) rfl ?_
      exact ⟨rfl, HS9.out.fin⟩
end
end Go.Proofs.Ytkemcgbedapkcaa
