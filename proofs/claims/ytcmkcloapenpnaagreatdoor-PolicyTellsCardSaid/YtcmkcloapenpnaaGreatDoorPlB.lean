/- The reference's parser: is, num. -/
import Derived.Test.YtcmkcloapenpnaaGreatDoorPlA
import Derived.Test.YtcmkcloapenpnaaGreatDoorWoC
import Derived.Test.YtcmkcloapenpnaaGreatDoorPfE
import Derived.Test.YtcmkcloapenpnaaGreatDoorWgC
namespace Go.Proofs.YtcmkcloapenpnaaGreatDoor
open Go.RowKit
set_option maxHeartbeats 6400000
set_option maxRecDepth 100000
/-- All blocks but one stay. -/
structure But (B : Nat) (w w' : World) : Prop where
  os : w'.os = w.os
  tape : w'.tape = w.tape
  output : w'.output = w.output
  size : w.heap.size ≤ w'.heap.size
  block : ∀ g, g < w.heap.size → g ≠ B → w'.heap[g]? = w.heap[g]?
theorem But.refl (B : Nat) (w : World) : But B w w := ⟨rfl, rfl, rfl, Nat.le_refl _, fun _ _ _ => rfl⟩
theorem But.trans {B : Nat} {a b c : World} (h : But B a b) (h' : But B b c) : But B a c :=
  ⟨h'.os.trans h.os, h'.tape.trans h.tape, h'.output.trans h.output, Nat.le_trans h.size h'.size, fun g hg h1 => (h'.block g (Nat.lt_of_lt_of_le hg h.size) h1).trans (h.block g hg h1)⟩
theorem But.of {B : Nat} {a b : World} (h : Below a.heap.size a b) : But B a b := ⟨h.os, h.tape, h.output, h.size, fun g hg _ => h.block g hg⟩
theorem But.set {B j : Nat} {w : World} {u : Value} : But B w (w.setCell ⟨B, j, none⟩ u) :=
  ⟨rfl, rfl, rfl, by simp [World.setCell], fun g _ h1 => heap_setCell_other w ⟨B, j, none⟩ g u h1⟩
theorem But.below {B C : Nat} {w w' : World} (h : But B w w') (hB : C ≤ B) (hC : C ≤ w.heap.size) : Below C w w' := ⟨h.os, h.tape, h.output, h.size, fun g hg => h.block g (by omega) (by omega)⟩
theorem own_but {B : Nat} {w w' : World} {base e size n : Nat} {v : Value} {xs : List Value} {t : TypeId} {c : Array Value} {fz : Nat × Nat} (hown : w.ownsRow base e size v n xs) (hb : But B w w') (ho : w.heap[B]? = some (.cells c t fz)) (he : e ≠ t) : w'.ownsRow base e size v n xs := by
  have hgb : w.grownBy w' (some B) := ⟨hb.os, hb.tape, hb.output, hb.size, fun k hk hne => hb.block k hk (fun e => hne (by rw [e]))⟩
  refine hown.kept hgb ?_
  rcases hown.2 with ⟨rfl, _⟩ | ⟨g, cap, cur, rfl, _, hg, _⟩
  · exact .inl rfl
  · refine .inr ?_
    simp only [Value.ownBlock, ne_eq, Option.some.injEq]
    rintro rfl
    rw [ho] at hg
    simp at hg
    exact he hg.2.1.symm
theorem tcells_len (l : List Tok) : (tcells l).length = l.length * 3 := by
  induction l with
  | nil => rfl
  | cons x r ih => simp only [tcells, List.flatMap_cons, List.length_append, List.length_cons, List.length_nil] at *; omega
theorem tcells_at {l : List Tok} {i : Nat} {t : Tok} (h : l[i]? = some t) : (tcells l)[i * 3]? = some (.int .i64 t.kind) ∧ (tcells l)[i * 3 + 1]? = some (.int .i64 t.pos) ∧ (tcells l)[i * 3 + 2]? = some (.string (txt t.text)) := by
  induction l generalizing i with
  | nil => simp at h
  | cons x r ih =>
    cases i with
    | zero => simp at h; subst h; exact ⟨rfl, rfl, rfl⟩
    | succ i =>
      simp at h
      obtain ⟨h1, h2, h3⟩ := ih h
      refine ⟨?_, ?_, ?_⟩
      · rw [show (i + 1) * 3 = i * 3 + 3 by omega]; exact h1
      · rw [show (i + 1) * 3 + 1 = i * 3 + 1 + 3 by omega]; exact h2
      · rw [show (i + 1) * 3 + 2 = i * 3 + 2 + 3 by omega]; exact h3
/-- What a parser is: its tokens, where it stands, and whether it is stuck. -/
structure PSt (BP : Nat) (A : Option Addr) (n c : Nat) (l : List Tok) (k : Nat) (b : Bool) (w : World) : Prop where
  box : w.heap[BP]? = some (.cells #[.slice A n c, .int .i64 (k : Int), .bool b] 55 (0, 0))
  tok : w.ownsRow 0 57 3 (.slice A n c) n (tcells l)
  few : n ≤ 10000
  sml : ∀ t ∈ l, t.text.length ≤ 10000
  in_ : k ≤ n
theorem pst_lt {w : World} {B : Nat} {o : Obj} (h : w.heap[B]? = some o) : B < w.heap.size := by
  rcases Nat.lt_or_ge B w.heap.size with h1 | h1
  · exact h1
  · rw [Array.getElem?_eq_none h1] at h; cases h
theorem PSt.lt {BP : Nat} {A : Option Addr} {n c : Nat} {l : List Tok} {k : Nat} {b : Bool} {w : World} (h : PSt BP A n c l k b w) : BP < w.heap.size := pst_lt h.box
theorem PSt.len {BP : Nat} {A : Option Addr} {n c : Nat} {l : List Tok} {k : Nat} {b : Bool} {w : World} (h : PSt BP A n c l k b w) : l.length = n := by
  have := h.tok.1; rw [tcells_len] at this; omega
theorem PSt.on {BP : Nat} {A : Option Addr} {n c : Nat} {l : List Tok} {k : Nat} {b : Bool} {w w' : World} (h : PSt BP A n c l k b w) (hb : Below w.heap.size w w') : PSt BP A n c l k b w' :=
  ⟨box_below h.box hb h.lt, own_below h.tok hb, h.few, h.sml, h.in_⟩
theorem PSt.drewN {BP : Nat} {A : Option Addr} {n c : Nat} {l : List Tok} {k : Nat} {b : Bool} {w : World} (h : PSt BP A n c l k b w) (j : Nat) : PSt BP A n c l k b (w.drewN j) := h.on (below_drewN (Below.refl _ _))
theorem PSt.turn {BP : Nat} {A : Option Addr} {n c : Nat} {l : List Tok} {k k' : Nat} {b b' : Bool} {w w' : World} (h : PSt BP A n c l k b w) (hb : But BP w w') (hx : w'.heap[BP]? = some (.cells #[.slice A n c, .int .i64 (k' : Int), .bool b'] 55 (0, 0))) (hk : k' ≤ n) : PSt BP A n c l k' b' w' :=
  ⟨hx, own_but h.tok hb h.box (by decide), h.few, h.sml, hk⟩
theorem pbox_cells {w : World} {B : Nat} {x0 x1 x2 : Value} {T : TypeId} (h : w.heap[B]? = some (.cells #[x0, x1, x2] T (0, 0))) : w.cell? ⟨B, 0, none⟩ = some x0 ∧ w.cell? ⟨B, 1, none⟩ = some x1 ∧ w.cell? ⟨B, 2, none⟩ = some x2 ∧ ∀ j, w.frozen? ⟨B, j, none⟩ = false :=
  ⟨by rw [cell_of_row _ _ _ _ _ _ h]; rfl, by rw [cell_of_row _ _ _ _ _ _ h]; rfl, by rw [cell_of_row _ _ _ _ _ _ h]; rfl, fun j => frozen_of_row _ _ _ _ _ h⟩
theorem pbox_set1 {w : World} {B : Nat} {x0 x1 x2 u : Value} {T : TypeId} (h : w.heap[B]? = some (.cells #[x0, x1, x2] T (0, 0))) : (w.setCell ⟨B, 1, none⟩ u).heap[B]? = some (.cells #[x0, u, x2] T (0, 0)) := heap_setCell_same w B 1 _ T u h
theorem pbox_set2 {w : World} {B : Nat} {x0 x1 x2 u : Value} {T : TypeId} (h : w.heap[B]? = some (.cells #[x0, x1, x2] T (0, 0))) : (w.setCell ⟨B, 2, none⟩ u).heap[B]? = some (.cells #[x0, x1, u] T (0, 0)) := heap_setCell_same w B 2 _ T u h
/-- Where a token stands. -/
theorem PSt.at {BP : Nat} {A : Option Addr} {n c : Nat} {l : List Tok} {k : Nat} {b : Bool} {w : World} (h : PSt BP A n c l k b w) {i : Nat} {t : Tok} (ht : l[i]? = some t) :
    ∃ g, A = some ⟨g, 0, none⟩ ∧ g < w.heap.size ∧ w.cell? ⟨g, i * 3, none⟩ = some (.int .i64 t.kind) ∧ w.cell? ⟨g, i * 3 + 1, none⟩ = some (.int .i64 t.pos) ∧ w.cell? ⟨g, i * 3 + 2, none⟩ = some (.string (txt t.text)) := by
  obtain ⟨k1, k2, k3⟩ := tcells_at ht
  have hi := (List.getElem?_eq_some_iff.1 ht).1
  have hlen := h.len
  rcases h.tok.2 with ⟨h1, h2⟩ | ⟨g, cap, cur, h1, _, hg, _, _⟩
  · omega
  · simp only [Value.slice.injEq] at h1
    obtain ⟨rfl, _, rfl⟩ := h1
    have q1 := h.tok.cells (g := g) rfl _ _ k1
    have q2 := h.tok.cells (g := g) rfl _ _ k2
    have q3 := h.tok.cells (g := g) rfl _ _ k3
    rw [Go.WideShapes.add_plain, Nat.zero_add] at q1 q2 q3
    exact ⟨g, rfl, pst_lt hg, q1, q2, q3⟩
def isS (l : List Tok) (k : Nat) (kind : Int) : Bool := match l[k]? with
  | some t => t.kind == kind
  | none => false
theorem is_quiet (BP : Nat) (A : Option Addr) (n c : Nat) (l : List Tok) (k : Nat) (b : Bool) (kind : Int) (w : World) (h : PSt BP A n c l k b w) :
    Calls Tryz.prog 40 #[.pointer (some ⟨BP, 0, none⟩), .int .i64 kind] w fun e w' => e = .returned (.bool (isS l k kind)) ∧ ∃ m, w' = w.drewN m := by
  obtain ⟨c0, c1, c2, _⟩ := pbox_cells h.box
  have hlen := h.len
  have hin := h.in_
  by_cases hk : k < n
  · obtain ⟨t, ht⟩ : ∃ t, l[k]? = some t := ⟨l[k]'(by omega), List.getElem?_eq_getElem _⟩
    have Q : isS l k kind = (t.kind == kind) := by unfold isS; rw [ht]
    rw [Q]
    obtain ⟨g, rfl, hg, d0, d1, d2⟩ := h.at ht
    have t1 : decide ((k : Int) < (n : Int)) = true := by simpa using hk
    have t2 : (k : Int) < (n : Int) := by omega
    obtain ⟨x, hx⟩ : ∃ x, t.kind = x := ⟨_, rfl⟩
    rw [hx] at d0 ⊢
    clear h Q hlen hk ht
    go_enter Tryz.func40, Tryz.ntmps40
    go_wp2_with fail
    go_big_quiet (fail)
    go_wp2_with fail
    go_ret
    exact ⟨rfl, _, rfl⟩
  · have Q : isS l k kind = false := by unfold isS; rw [List.getElem?_eq_none (by omega)]
    rw [Q]
    have t1 : decide ((k : Int) < (n : Int)) = false := by simp; omega
    clear h Q hlen
    go_enter Tryz.func40, Tryz.ntmps40
    go_wp2_with fail
    go_big_quiet (fail)
    go_wp2_with fail
    go_ret
    exact ⟨rfl, _, rfl⟩
theorem is_any (BP : Nat) (A : Option Addr) (n c : Nat) (l : List Tok) (k : Nat) (b : Bool) (kind : Int) (w : World) (h : PSt BP A n c l k b w) :
    Calls Tryz.prog 40 #[.pointer (some ⟨BP, 0, none⟩), .int .i64 kind] w fun e w' => e = .returned (.bool (isS l k kind)) ∧ Below w.heap.size w w' :=
  (is_quiet BP A n c l k b kind w h).mono fun _ _ h => ⟨h.1, by obtain ⟨m, rfl⟩ := h.2; exact below_drewN (Below.refl _ _)⟩
def numAt (l : List Tok) (k : Nat) : Option Nat := (l[k]?).bind fun t => numT (era t)
def NumAns (BP : Nat) (A : Option Addr) (n c : Nat) (l : List Tok) (k : Nat) (w : World) (e : Ending) (w' : World) : Prop :=
  But BP w w' ∧ ((∃ v : Nat, numAt l k = some v ∧ e = .returned (.int .i64 (v : Int)) ∧ PSt BP A n c l (k + 1) false w') ∨ (numAt l k = none ∧ e = .returned (.int .i64 0) ∧ PSt BP A n c l k true w'))
theorem pnum_any (BP : Nat) (A : Option Addr) (n c : Nat) (l : List Tok) (k : Nat) (w : World) (h : PSt BP A n c l k false w) :
    Calls Tryz.prog 41 #[.pointer (some ⟨BP, 0, none⟩)] w (NumAns BP A n c l k w) := by
  obtain ⟨c0, c1, c2, _⟩ := pbox_cells h.box
  have hlen := h.len
  have hin := h.in_
  have hfew := h.few
  have HI := hid (is_any BP A n c l k false 2 w h)
  have HH := hid h
  cases hi : isS l k 2 with
  | false =>
    rw [hi] at HI
    have Q : numAt l k = none := by
      unfold numAt
      unfold isS at hi
      cases ht : l[k]? with
      | none => rfl
      | some t =>
        rw [ht] at hi
        exact if_neg (fun hh => by have h2 : t.kind = 2 := hh.1; simp [h2] at hi)
    have HQ := hid Q
    clear hi h Q hlen hin
    go_enter Tryz.func41, Tryz.ntmps41
    go_wp2_with (go_at_call 40; (with_reducible refine HI.out.mono ?_); rintro e' w1 ⟨rfl, hb1⟩; have h1 := HH.out.on hb1; have H1 := hid h1; have HB1 := hid hb1; obtain ⟨d0, d1, d2, df⟩ := pbox_cells h1.box; have df2 := df 2; clear h1 hb1 df)
    go_ret
    exact ⟨(But.of HB1.out).trans But.set, .inr ⟨HQ.out, rfl, H1.out.turn But.set (pbox_set2 H1.out.box) H1.out.in_⟩⟩
  | true =>
    rw [hi] at HI
    obtain ⟨t, ht, hkd⟩ : ∃ t, l[k]? = some t ∧ t.kind = 2 := by
      unfold isS at hi
      cases ht : l[k]? with
      | none => rw [ht] at hi; cases hi
      | some t => rw [ht] at hi; exact ⟨t, rfl, by simpa using hi⟩
    have hk : k < n := by rw [← hlen]; exact (List.getElem?_eq_some_iff.1 ht).1
    have htl := h.sml t (List.mem_of_getElem? ht)
    obtain ⟨V, hV⟩ : ∃ V, numS t.text 2147483647 = V := ⟨_, rfl⟩
    have HN := hid (fun w' => show Calls Tryz.prog 58 #[.string (txt t.text), .int .i64 2147483647] w' fun e w'' => e = .returned (.int .i64 V) ∧ w' = w'' from hV ▸ num_any t.text 2147483647 w' (by omega))
    have HT := hid ht
    have k1 : (k : Int) < (n : Int) := by omega
    by_cases h0 : 0 ≤ V
    · have HQ := hid (show numAt l k = some V.toNat by
        unfold numAt
        rw [ht]
        exact (if_pos ⟨hkd, by show 0 ≤ numS t.text _; rw [hV]; exact h0⟩).trans (by show some (numS t.text _).toNat = _; rw [hV]))
      have t0 : decide (V < 0) = false := by simp; omega
      have e0 : IntKind.i64.wrap ((k : Int) + 1) = (k : Int) + 1 := by rw [IntKind.wrap_i64]; omega
      obtain ⟨v, hv⟩ := Int.eq_ofNat_of_zero_le h0
      have Hv := hid hv
      have Hk := hid hk
      clear hi h hlen hin ht htl hV h0 hfew hv hk
      go_enter Tryz.func41, Tryz.ntmps41
      go_wp2_with (go_at_call 40; (with_reducible refine HI.out.mono ?_); rintro e' w1 ⟨rfl, hb1⟩; have h1 := HH.out.on hb1; have H1 := hid h1; have HB1 := hid hb1; obtain ⟨d0, d1, d2, df⟩ := pbox_cells h1.box; have f1 : ∀ j, (w1.drewN j).cell? ⟨BP, 1, none⟩ = some (.int .i64 (k : Int)) := fun j => (pbox_cells (H1.out.drewN j).box).2.1; have f2 : ∀ j, (w1.drewN j).frozen? ⟨BP, 1, none⟩ = false := fun j => (pbox_cells (H1.out.drewN j).box).2.2.2 1; obtain ⟨g, rfl, hg, x0, x1, x2⟩ := h1.at HT.out; clear h1 hb1 df)
      go_big_quiet ((go_at_call 58; exact Calls.quiet_of_same ((HN.out _).mono fun e w' h => ⟨h.1, h.2.symm⟩)))
      go_wp2_with fail
      go_ret
      have hk := Hk.out
      refine ⟨((But.of HB1.out).trans (But.of (below_drewN (Below.refl _ _)))).trans But.set, .inl ⟨V.toNat, HQ.out, by rw [Hv.out]; rfl, ?_⟩⟩
      exact (H1.out.drewN _).turn But.set (pbox_set1 (H1.out.drewN _).box) hk
    · have HQ := hid (show numAt l k = none by
        unfold numAt
        rw [ht]
        exact if_neg (fun hh => h0 (by rw [← hV]; exact hh.2)))
      have t0 : decide (V < 0) = true := by simp; omega
      clear hi h hlen hin ht htl hV h0 hfew hk
      go_enter Tryz.func41, Tryz.ntmps41
      go_wp2_with (go_at_call 40; (with_reducible refine HI.out.mono ?_); rintro e' w1 ⟨rfl, hb1⟩; have h1 := HH.out.on hb1; have H1 := hid h1; have HB1 := hid hb1; obtain ⟨d0, d1, d2, df⟩ := pbox_cells h1.box; have f2 : ∀ j, (w1.drewN j).frozen? ⟨BP, 2, none⟩ = false := fun j => (pbox_cells (H1.out.drewN j).box).2.2.2 2; obtain ⟨g, rfl, hg, x0, x1, x2⟩ := h1.at HT.out; clear h1 hb1 df)
      go_big_quiet ((go_at_call 58; exact Calls.quiet_of_same ((HN.out _).mono fun e w' h => ⟨h.1, h.2.symm⟩)))
      go_wp2_with fail
      go_ret
      refine ⟨((But.of HB1.out).trans (But.of (below_drewN (Below.refl _ _)))).trans But.set, .inr ⟨HQ.out, rfl, ?_⟩⟩
      exact (H1.out.drewN _).turn But.set (pbox_set2 (H1.out.drewN _).box) H1.out.in_
end Go.Proofs.YtcmkcloapenpnaaGreatDoor
