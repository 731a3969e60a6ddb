/- What the laws ask of words.Split; alive. -/
import Derived.Test.YtpnabmndnaiioaaWoB
import Derived.Test.YtpnabmndnaiioaaWoC
namespace Go.Proofs.Ytpnabmndnaiioaa
open Go.RowKit
set_option maxHeartbeats 6400000
set_option maxRecDepth 100000
/-- A row of tokens. -/
def RTok (w : World) (B : Nat) (A : Option Addr) (n : Nat) (l : List Tok) : Prop :=
  l.length = n ∧ (0 < n → ∃ b off, A = some ⟨b, off, none⟩ ∧ b < B ∧ ∀ (i : Nat) (t : Tok), l[i]? = some t → w.cell? ⟨b, off + i * 3, none⟩ = some (.int .i64 t.kind) ∧ w.cell? ⟨b, off + i * 3 + 1, none⟩ = some (.int .i64 t.pos) ∧ w.cell? ⟨b, off + i * 3 + 2, none⟩ = some (.string (txt t.text)))
theorem RTok.on {a b : World} {A : Option Addr} {n : Nat} {l : List Tok} (h : RTok a a.heap.size A n l) (hb : Below a.heap.size a b) : RTok b b.heap.size A n l := by
  refine ⟨h.1, fun hn => ?_⟩
  obtain ⟨c, off, hA, hc, hx⟩ := h.2 hn
  refine ⟨c, off, hA, Nat.lt_of_lt_of_le hc hb.size, fun i t ht => ?_⟩
  obtain ⟨h1, h2, h3⟩ := hx i t ht
  exact ⟨(hb.cell (p := ⟨c, _, none⟩) hc).trans h1, (hb.cell (p := ⟨c, _, none⟩) hc).trans h2, (hb.cell (p := ⟨c, _, none⟩) hc).trans h3⟩
theorem tcells_len (l : List Tok) : (tcells l).length = l.length * 3 := by
  induction l with
  | nil => rfl
  | cons t l ih =>
    have h : tcells (t :: l) = [.int .i64 t.kind, .int .i64 t.pos, .string (txt t.text)] ++ tcells l := rfl
    rw [h, List.length_append, ih]
    simp only [List.length_cons, List.length_nil]; omega
theorem tcells_at {l : List Tok} {i : Nat} {t : Tok} (h : l[i]? = some t) : (tcells l)[i * 3]? = some (.int .i64 t.kind) ∧ (tcells l)[i * 3 + 1]? = some (.int .i64 t.pos) ∧ (tcells l)[i * 3 + 2]? = some (.string (txt t.text)) := by
  obtain ⟨hi, ht⟩ := List.getElem?_eq_some_iff.1 h
  have e : l = l.take i ++ t :: l.drop (i + 1) := by
    have := List.take_append_drop i l
    rw [List.drop_eq_getElem_cons hi, ht] at this
    exact this.symm
  have hl : (tcells (l.take i)).length = i * 3 := by rw [tcells_len, List.length_take]; congr 1; omega
  have hx : tcells l = tcells (l.take i) ++ ([.int .i64 t.kind, .int .i64 t.pos, .string (txt t.text)] ++ tcells (l.drop (i + 1))) := by
    conv => lhs; rw [e]
    rw [tcells_app]; rfl
  rw [hx]
  refine ⟨?_, ?_, ?_⟩
  · rw [List.getElem?_append_right (by omega), hl, show i * 3 - i * 3 = 0 by omega]; rfl
  · rw [List.getElem?_append_right (by omega), hl, show i * 3 + 1 - i * 3 = 1 by omega]; rfl
  · rw [List.getElem?_append_right (by omega), hl, show i * 3 + 2 - i * 3 = 2 by omega]; rfl
theorem own_toks {w : World} {base m : Nat} {v : Value} {l : List Tok} (h : w.ownsRow base 28 3 v m (tcells l)) (hl : l.length = m) : ∃ A cap, v = .slice A m cap ∧ m ≤ cap ∧ RTok w w.heap.size A m l := by
  subst hl
  rcases Nat.eq_zero_or_pos l.length with h0 | h0
  · rcases h.2 with ⟨rfl, h1⟩ | ⟨g, cap, cur, rfl, _, _, h2, _⟩
    · exact ⟨none, 0, by rw [h0], by omega, rfl, fun h => by omega⟩
    · exact ⟨_, cap, rfl, by omega, rfl, fun h => by omega⟩
  · rcases h.2 with ⟨_, h1⟩ | ⟨g, cap, cur, rfl, _, hg, h2, _⟩
    · omega
    refine ⟨_, cap, rfl, h2, rfl, fun _ => ⟨g, 0, rfl, ?_, fun i e he => ?_⟩⟩
    · rcases Nat.lt_or_ge g w.heap.size with hlt | hge
      · exact hlt
      · rw [Array.getElem?_eq_none hge] at hg; cases hg
    obtain ⟨c0, c1, c2⟩ := tcells_at he
    have k0 := h.cells (g := g) rfl (i * 3) _ c0
    have k1 := h.cells (g := g) rfl (i * 3 + 1) _ c1
    have k2 := h.cells (g := g) rfl (i * 3 + 2) _ c2
    rw [Go.WideShapes.add_plain] at k0 k1 k2
    exact ⟨k0, k1, k2⟩
/-- Tokens that are read, where they lie and who made them apart. -/
def TokAns (x : List Tok × Int × Int) (w : World) (e : Ending) (w' : World) : Prop :=
  ∃ A c, e = .returned (.tuple #[.slice A x.1.length c, .int .i64 x.2.1, .int .i64 x.2.2]) ∧ RTok w' w'.heap.size A x.1.length x.1 ∧ Below w.heap.size w w'
theorem tokAns_of {x : List Tok × Int × Int} {w w' : World} {e : Ending} (h : SplitAns x w e w') : TokAns x w e w' := by
  obtain ⟨v, rfl, h2, h3⟩ := h
  obtain ⟨A, c, rfl, _, hr⟩ := own_toks h2 rfl
  exact ⟨A, c, rfl, hr, h3⟩
def WordSpec (f : Nat) : Prop := ∀ (s : List UInt8) (w : World), s.length ≤ 20000 → Calls Try.prog f #[.string (txt s)] w (TokAns (splitS s) w)
theorem refSplit_spec : WordSpec 6 := fun s w h => (split_any s w (by omega)).mono fun _ _ => tokAns_of
theorem num_any (x : Int) (w : World) : Calls Try.prog 8 #[.int .i64 x] w fun e w' => e = .returned (.int .i64 x) ∧ w = w' := by
  go_enter Try.func8, Try.ntmps8
  go_wp2_with fail
  go_ret
  exact ⟨rfl, rfl⟩
theorem alive_any (h : WordSpec 7) (w : World) : Calls Try.prog 5 #[] w fun e w' => e = .returned (.bool true) ∧ Below w.heap.size w w' := by
  have H0 : Hid (∀ W : World, Calls Try.prog 7 #[.string ⟨#[]⟩] W fun e w' => ∃ A c, e = .returned (.tuple #[.slice A 0 c, .int .i64 (-1), .int .i64 0]) ∧ Below W.heap.size W w') := fun W =>
    (h [] W (by decide)).mono fun _ _ ⟨A, c, h1, _, h3⟩ => ⟨A, c, h1, h3⟩
  have hs : splitS [97, 98, 32, 51, 59] = ([⟨1, 0, [97, 98]⟩, ⟨2, 3, [51]⟩, ⟨3, 4, [59]⟩], -1, 0) := by rfl
  have H1 : Hid (∀ W : World, Calls Try.prog 7 #[.string ⟨#[97, 98, 32, 51, 59]⟩] W fun e w' => ∃ A c, e = .returned (.tuple #[.slice A 3 c, .int .i64 (-1), .int .i64 0]) ∧ RTok w' w'.heap.size A 3 [⟨1, 0, [97, 98]⟩, ⟨2, 3, [51]⟩, ⟨3, 4, [59]⟩] ∧ Below W.heap.size W w') := fun W => by
    have := h [97, 98, 32, 51, 59] W (by decide)
    rw [hs] at this
    exact this
  have HN := hid (fun W => num_any 0 W)
  have htl : (txt [97, 98]).toList = [97, 98] := txt_list _
  clear h hs
  go_enter Try.func5, Try.ntmps5
  go_wp2_with (first
    | (go_at_call 7; (with_reducible refine (H0.out _).mono ?_); rintro e' w1 ⟨A1, c1, rfl, hb1⟩)
    | (go_at_call 7; (with_reducible refine (H1.out _).mono ?_); rintro e' w2 ⟨A2, c2, rfl, hr2, hb2⟩; obtain ⟨b, off, rfl, hbl, hc⟩ := hr2.2 (by omega); obtain ⟨k0, k1, k2⟩ := hc 0 _ rfl; (rw [Nat.zero_mul, Nat.add_zero] at k0 k1 k2); clear hc)
    | (go_at_call 8; (with_reducible refine (HN.out _).mono ?_); rintro _ _ ⟨rfl, rfl⟩))
  go_ret
  exact ⟨rfl, hb1.trans (hb2.mono hb1.size)⟩
end Go.Proofs.Ytpnabmndnaiioaa
