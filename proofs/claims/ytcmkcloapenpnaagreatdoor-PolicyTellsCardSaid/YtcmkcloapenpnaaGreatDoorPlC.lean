/- The reference's parser: nums. -/
import Derived.Test.YtcmkcloapenpnaaGreatDoorPlB
import Derived.Test.YtcmkcloapenpnaaGreatDoorWgB
namespace Go.Proofs.YtcmkcloapenpnaaGreatDoor
open Go.RowKit
set_option maxHeartbeats 6400000
set_option maxRecDepth 100000
/-- What is left. -/
def Kd (l : List Tok) (k : Nat) : List Tk := (l.map era).drop k
theorem Kd_some {l : List Tok} {k : Nat} {t : Tok} (h : l[k]? = some t) : Kd l k = era t :: Kd l (k + 1) := by
  obtain ⟨hk, hx⟩ := List.getElem?_eq_some_iff.1 h
  unfold Kd
  rw [List.drop_eq_getElem_cons (by simpa using hk)]
  simp [hx]
theorem Kd_none {l : List Tok} {k : Nat} (h : l.length ≤ k) : Kd l k = [] := by
  unfold Kd; rw [List.drop_eq_nil_iff]; simpa using h
theorem Kd_len {l : List Tok} {k : Nat} : (Kd l k).length = l.length - k := by unfold Kd; simp
theorem isS_not {l : List Tok} {k : Nat} {kind : Int} (h : isS l k kind = false) : l[k]? = none ∨ ∃ t, l[k]? = some t ∧ t.kind ≠ kind := by
  unfold isS at h
  cases ht : l[k]? with
  | none => exact .inl rfl
  | some t => rw [ht] at h; exact .inr ⟨t, rfl, by simpa using h⟩
theorem isS_yes {l : List Tok} {k : Nat} {kind : Int} (h : isS l k kind = true) : ∃ t, l[k]? = some t ∧ t.kind = kind := by
  unfold isS at h
  cases ht : l[k]? with
  | none => rw [ht] at h; cases h
  | some t => rw [ht] at h; exact ⟨t, rfl, by simpa using h⟩
theorem num1_at {l : List Tok} {k v : Nat} (h : numAt l k = some v) : num1 (Kd l k) = .ok (v, Kd l (k + 1)) ∧ k < l.length := by
  unfold numAt at h
  cases ht : l[k]? with
  | none => rw [ht] at h; cases h
  | some t =>
    rw [ht] at h
    have h2 : numT (era t) = some v := h
    refine ⟨?_, (List.getElem?_eq_some_iff.1 ht).1⟩
    rw [Kd_some ht]; simp only [num1]; rw [h2]
theorem num1_bad {l : List Tok} {k : Nat} (h : numAt l k = none) : num1 (Kd l k) = .error (Kd l k) := by
  unfold numAt at h
  cases ht : l[k]? with
  | none =>
    rw [Kd_none (List.getElem?_eq_none_iff.1 ht)]; rfl
  | some t =>
    rw [ht] at h
    have h2 : numT (era t) = none := h
    rw [Kd_some ht]; simp only [num1]; rw [h2]
def contN (acc : List Nat) : Except (List Tk) (List Nat × List Tk) → Except (List Tk) (List Nat × List Tk)
  | .ok (vs, r) => .ok (acc ++ vs, r)
  | .error e => .error e
theorem more_end {l : List Tok} {k : Nat} (h : isS l k 2 = false) : more (Kd l k) = .ok ([], Kd l k) := by
  rcases isS_not h with h1 | ⟨t, h1, h2⟩
  · rw [Kd_none (List.getElem?_eq_none_iff.1 h1)]; rfl
  · rw [Kd_some h1]; unfold more; rw [if_neg (show ¬ (era t).1 = 2 from h2)]
theorem more_on {l : List Tok} {k v : Nat} (h : isS l k 2 = true) (hv : numAt l k = some v) (acc : List Nat) : contN acc (more (Kd l k)) = contN (acc ++ [v]) (more (Kd l (k + 1))) := by
  obtain ⟨t, h1, h2⟩ := isS_yes h
  unfold numAt at hv
  rw [h1] at hv
  have h3 : numT (era t) = some v := hv
  rw [Kd_some h1]
  conv => lhs; unfold more
  rw [if_pos (show (era t).1 = 2 from h2), h3]
  cases more (Kd l (k + 1)) with
  | error e => rfl
  | ok x => obtain ⟨vs, r⟩ := x; simp [contN]
theorem more_bad {l : List Tok} {k : Nat} (h : isS l k 2 = true) (hv : numAt l k = none) (acc : List Nat) : contN acc (more (Kd l k)) = .error (Kd l k) := by
  obtain ⟨t, h1, h2⟩ := isS_yes h
  unfold numAt at hv
  rw [h1] at hv
  have h3 : numT (era t) = none := hv
  rw [Kd_some h1]
  conv => lhs; unfold more
  rw [if_pos (show (era t).1 = 2 from h2), h3]
  rfl
theorem nums1_on {l : List Tok} {k v : Nat} (hv : numAt l k = some v) : nums1 (Kd l k) = contN [v] (more (Kd l (k + 1))) := by
  unfold nums1
  rw [(num1_at hv).1]
  simp only
  cases more (Kd l (k + 1)) with
  | error e => rfl
  | ok x => obtain ⟨vs, r⟩ := x; rfl
theorem nums1_bad {l : List Tok} {k : Nat} (hv : numAt l k = none) : nums1 (Kd l k) = .error (Kd l k) := by
  unfold nums1
  rw [num1_bad hv]
theorem but_app {B : Nat} {w wr w4 : World} {base e s n : Nat} {v : Value} {xs : List Value} {o : Obj} (h : But B w wr) (hb : w.heap.size ≤ base) (hown : wr.ownsRow base e s v n xs) (hg : (wr.alloc o).grownBy w4 v.ownBlock) : But B w w4 := by
  have h1 := (But.of (B := B) ((Below.refl wr.heap.size wr).alloc (Nat.le_refl _) o))
  have h2 := h.trans h1
  refine ⟨hg.os.trans h2.os, hg.tape.trans h2.tape, hg.output.trans h2.output, Nat.le_trans h2.size hg.size, fun g hg1 hg2 => ?_⟩
  refine (hg.block g (Nat.lt_of_lt_of_le hg1 h2.size) (fun hh => ?_)).trans (h2.block g hg1 hg2)
  have := (hown.lt g hh.symm).1
  omega
theorem own_app {w w4 : World} {b e s n b2 e2 s2 n2 : Nat} {v v2 : Value} {xs ys : List Value} {o : Obj} (ho : w.ownsRow b e s v n xs) (h2 : w.ownsRow b2 e2 s2 v2 n2 ys) (hg : (w.alloc o).grownBy w4 v2.ownBlock) (hne : e ≠ e2) : w4.ownsRow b e s v n xs := by
  have ho1 := ho.alloc (w := w) o
  have ho2 := h2.alloc (w := w) o
  exact ho1.kept hg ((own_apart ho1 ho2 hne).imp id id)
theorem box_app2 {wr w4 : World} {B base e s n : Nat} {v : Value} {xs : List Value} {o : Obj} {cs : Array Value} {t : TypeId} (hbox : wr.heap[B]? = some (.cells cs t (0, 0))) (hown : wr.ownsRow base e s v n xs) (hne : t ≠ e) (hg : (wr.alloc o).grownBy w4 v.ownBlock) : w4.heap[B]? = some (.cells cs t (0, 0)) := by
  have hlt := pst_lt hbox
  refine (hg.block B (by simp; omega) (fun h => ?_)).trans (((Below.alloc (Below.refl wr.heap.size wr) (Nat.le_refl _) o).block B hlt).trans hbox)
  rcases hown.2 with ⟨rfl, _⟩ | ⟨g, cap, cur, rfl, _, hgg, _⟩
  · simp [Value.ownBlock] at h
  · simp only [Value.ownBlock, Option.some.injEq] at h
    subst h
    rw [hbox] at hgg
    simp at hgg
    exact hne hgg.2
theorem PSt.app {BP : Nat} {A : Option Addr} {n c : Nat} {l : List Tok} {k : Nat} {b : Bool} {w w4 : World} {base e s m : Nat} {v : Value} {xs : List Value} {o : Obj} (h : PSt BP A n c l k b w) (hown : w.ownsRow base e s v m xs) (hg : (w.alloc o).grownBy w4 v.ownBlock) (h1 : 55 ≠ e) (h2 : 57 ≠ e) : PSt BP A n c l k b w4 :=
  ⟨box_app2 h.box hown h1 hg, own_app h.tok hown hg h2, h.few, h.sml, h.in_⟩
def lenOf : Value → Nat
  | .slice _ n _ => n
  | _ => 0
def NumsAns (BP : Nat) (A : Option Addr) (n c : Nat) (l : List Tok) (k : Nat) (w : World) (e : Ending) (w' : World) : Prop :=
  But BP w w' ∧ ∃ A5 m c5 k', e = .returned (.slice A5 m c5) ∧ ((∃ vs : List Nat, nums1 (Kd l k) = .ok (vs, Kd l k') ∧ vs.length = m ∧ m ≤ 10001 ∧ w'.ownsRow w.heap.size 3 1 (.slice A5 m c5) m (icells (vs.map Int.ofNat)) ∧ PSt BP A n c l k' false w') ∨ (nums1 (Kd l k) = .error (Kd l k') ∧ PSt BP A n c l k' true w'))
/-- What nums holds while it reads. -/
structure NLp (BP : Nat) (A : Option Addr) (n c : Nat) (l : List Tok) (k : Nat) (w : World) (v : Value) (L : List Int) (k' : Nat) (b : Bool) (w' : World) : Prop where
  but : But BP w w'
  own : w'.ownsRow w.heap.size 3 1 v L.length (icells L)
  pst : PSt BP A n c l k' b w'
  few : L.length ≤ k' + 1 + (if b then 1 else 0)
  good : b = false → ∃ acc : List Nat, L = acc.map Int.ofNat ∧ nums1 (Kd l k) = contN acc (more (Kd l k'))
  bad : b = true → nums1 (Kd l k) = .error (Kd l k')
theorem nums_start {BP : Nat} {A : Option Addr} {n c : Nat} {l : List Tok} {k : Nat} {w w1 : World} {e : Ending} (h : NumAns BP A n c l k w e w1) :
    ∃ (v0 : Int) (k1 : Nat) (b1 : Bool), e = .returned (.int .i64 v0) ∧ Hid (NLp BP A n c l k w (.slice (some ⟨w1.heap.size, 0, none⟩) 1 1) [v0] k1 b1 (w1.alloc (.cells #[.int .i64 v0] 3))) := by
  have hown : ∀ v0 : Int, (w1.alloc (.cells #[.int .i64 v0] 3)).ownsRow w.heap.size 3 1 (.slice (some ⟨w1.heap.size, 0, none⟩) 1 1) 1 (icells [v0]) := fun v0 => by
    exact ⟨by simp [icells], .inr ⟨w1.heap.size, 1, #[.int .i64 v0], rfl, h.1.size, heap_alloc_new w1 _, Nat.le_refl _, by unfold maxLen; omega, by simp, by simp [icells]⟩⟩
  have hb : ∀ v0 : Int, Below w1.heap.size w1 (w1.alloc (.cells #[.int .i64 v0] 3)) := fun v0 => (Below.refl _ _).alloc (Nat.le_refl _) _
  rcases h.2 with ⟨v, hv, rfl, hp⟩ | ⟨hv, rfl, hp⟩
  · exact ⟨v, k + 1, false, rfl, h.1.trans (But.of (hb v)), hown v, hp.on (hb v), by simp, fun _ => ⟨[v], rfl, nums1_on hv⟩, fun hh => by cases hh⟩
  · exact ⟨0, k, true, rfl, h.1.trans (But.of (hb 0)), hown 0, hp.on (hb 0), by simp, fun hh => (by cases hh), fun _ => nums1_bad hv⟩
theorem NLp.put {BP : Nat} {A : Option Addr} {n c : Nat} {l : List Tok} {k k' : Nat} {w wr w5 w6 : World} {v v6 : Value} {L : List Int} {o : Obj} {x : Int} (h : NLp BP A n c l k w v L k' false wr) (hs : isS l k' 2 = true) {k6 : Nat} {b6 : Bool} (hN : But BP wr w5) (hp : PSt BP A n c l k6 b6 w5)
    (hx : (b6 = false ∧ ∃ y : Nat, numAt l k' = some y ∧ x = (y : Int) ∧ k6 = k' + 1) ∨ (b6 = true ∧ numAt l k' = none ∧ k6 = k')) (hown : w6.ownsRow w.heap.size 3 1 v6 (L.length + 1) (icells L ++ [.int .i64 x])) (hg : (w5.alloc o).grownBy w6 v.ownBlock) : NLp BP A n c l k w v6 (L ++ [x]) k6 b6 w6 := by
  have ho5 : w5.ownsRow w.heap.size 3 1 v L.length (icells L) := own_but h.own hN h.pst.box (by decide)
  have hf := h.few
  refine ⟨but_app (h.but.trans hN) (Nat.le_refl _) ho5 hg, by rw [List.length_append, List.length_singleton]; simpa [icells] using hown, hp.app ho5 hg (by decide) (by decide), ?_, ?_, ?_⟩
  · rw [List.length_append, List.length_singleton]
    rcases hx with ⟨rfl, y, _, _, rfl⟩ | ⟨rfl, _, rfl⟩ <;> simp at hf ⊢ <;> omega
  · intro hb
    rcases hx with ⟨_, y, hy, rfl, rfl⟩ | ⟨h1, _⟩
    · obtain ⟨acc, rfl, hq⟩ := h.good rfl
      exact ⟨acc ++ [y], by simp, hq.trans (more_on hs hy acc)⟩
    · rw [h1] at hb; cases hb
  · intro hb
    rcases hx with ⟨h1, _⟩ | ⟨_, hy, rfl⟩
    · rw [h1] at hb; cases hb
    · obtain ⟨acc, rfl, hq⟩ := h.good rfl
      exact hq.trans (more_bad hs hy acc)
theorem num_cases {BP : Nat} {A : Option Addr} {n c : Nat} {l : List Tok} {k : Nat} {w w1 : World} {e : Ending} (h : NumAns BP A n c l k w e w1) :
    ∃ (x : Int) (k6 : Nat) (b6 : Bool), e = .returned (.int .i64 x) ∧ But BP w w1 ∧ PSt BP A n c l k6 b6 w1 ∧ ((b6 = false ∧ ∃ y : Nat, numAt l k = some y ∧ x = (y : Int) ∧ k6 = k + 1) ∨ (b6 = true ∧ numAt l k = none ∧ k6 = k)) := by
  rcases h.2 with ⟨v, hv, rfl, hp⟩ | ⟨hv, rfl, hp⟩
  · exact ⟨v, k + 1, false, rfl, h.1, hp, .inl ⟨rfl, v, hv, rfl, rfl⟩⟩
  · exact ⟨0, k, true, rfl, h.1, hp, .inr ⟨rfl, hv, rfl⟩⟩
theorem nums_any (BP : Nat) (A : Option Addr) (n c : Nat) (l : List Tok) (k : Nat) (w : World) (h : PSt BP A n c l k false w) :
    Calls Tryz.prog 59 #[.pointer (some ⟨BP, 0, none⟩)] w (NumsAns BP A n c l k w) := by
  obtain ⟨i5, hi5, hz0, hz1, hz2⟩ := info_parts (show (Tryz.prog.info? 3).map (fun i => (i.zero, i.size, i.bytes)) = some (some (.int .i64 0), 1, 8) by kernel_rfl)
  have Ai := hid hi5; have Az0 := hid hz0; have Az1 := hid hz1; have Az2 := hid hz2
  have HN := hid (pnum_any BP A n c l k w h)
  have hfew := h.few
  have hlen := hid h.len
  clear hi5 hz0 hz1 hz2 h
  go_enter Tryz.func59, Tryz.ntmps59
  go_wp2_with (go_at_call 41; (with_reducible refine HN.out.mono ?_); intro e' w1 hN; obtain ⟨v0, k1, b1, rfl, HL0⟩ := nums_start hN; clear hN)
  go_loopw [3] (fun iv wr => ∃ (v : Value) (L : List Int) (k' : Nat) (b : Bool), iv = v ∧ lenOf v = L.length ∧ Hid (NLp BP A n c l k w v L k' b wr)) (fun iv _ => 20005 - lenOf iv)
  case atStart => exact ⟨_, [v0], k1, b1, rfl, rfl, HL0⟩
  case round =>
    obtain ⟨v, L, k', b, rfl, hlv, HSt⟩ := hrel
    obtain ⟨A5, c5, hv5⟩ := own_form HSt.out.own
    subst hv5
    have hfl := HSt.out.few
    have hin := HSt.out.pst.in_
    obtain ⟨p0, p1, p2, _⟩ := pbox_cells HSt.out.pst.box
    cases b with
    | true =>
      have hm : L.length ≤ 10002 := by simp at hfl; omega
      go_wp2_with fail
      go_ret
      exact ⟨HSt.out.but, A5, L.length, c5, k', rfl, .inr ⟨HSt.out.bad rfl, HSt.out.pst⟩⟩
    | false =>
      have hm : L.length ≤ 10001 := by simp at hfl; omega
      have HI := hid (is_any BP A n c l k' false 2 wr HSt.out.pst)
      cases hs : isS l k' 2 with
      | false =>
        rw [hs] at HI
        go_wp2_with (go_at_call 40; (with_reducible refine HI.out.mono ?_); rintro e' w2 ⟨rfl, hb2⟩; have HB2 := hid hb2; clear hb2)
        go_ret
        have hE := more_end hs
        refine ⟨HSt.out.but.trans (But.of HB2.out), A5, L.length, c5, k', rfl, .inl ?_⟩
        obtain ⟨acc, hL, hq⟩ := HSt.out.good rfl
        refine ⟨acc, by rw [hq, hE]; simp [contN], by rw [hL]; simp, by omega, ?_, HSt.out.pst.on HB2.out⟩
        rw [← hL]
        exact own_below HSt.out.own HB2.out
      | true =>
        rw [hs] at HI
        have Hs := hid hs
        clear hs
        go_wp2_with (first
          | (go_at_call 40; (with_reducible refine HI.out.mono ?_); rintro e' w2 ⟨rfl, hb2⟩; have HB2 := hid hb2; have HN2 := hid (pnum_any BP A n c l k' w2 (HSt.out.pst.on hb2)); clear hb2)
          | (go_at_call 41; (with_reducible refine HN2.out.mono ?_); intro e' w5 hN; obtain ⟨x, k6, b6, rfl, hbut, hp6, hx6⟩ := num_cases hN; have HBut := hid ((But.of HB2.out).trans hbut); have HP6 := hid hp6; have HX6 := hid hx6; have HO5 := hid (own_but HSt.out.own HBut.out HSt.out.pst.box (by decide)); have hsz5 := HBut.out.size; have hsz6 := HSt.out.but.size; clear hN hbut hp6 hx6)
          | (at_builtin; refine wpList_append_own _ rfl _ _ 38 rfl w.heap.size 3 i5 (.int .i64 0) 1 8 Tryz.underlying38 Ai.out Az0.out Az1.out Az2.out rfl (by decide) _ _ _ rfl (HO5.out.alloc _) ⟨w5.heap.size, 0, none⟩ 1 1 [.int .i64 x] rfl rfl (new_row (by rfl)) (by simp [Value.oneCell']) (by unfold maxLen; omega) (by omega) (by simp; omega) ?_; intro v6 w6 hown6 hg6 _; obtain ⟨A6, c6, rfl⟩ := own_form hown6; have HNx := hid (NLp.put HSt.out Hs.out HBut.out HP6.out HX6.out hown6 hg6); clear hown6 hg6))
        go_roundw
        case rel => exact ⟨_, L ++ [x], k6, b6, rfl, by simp [lenOf], HNx⟩
        case measure => simp [lenOf] at hlv ⊢; omega
end Go.Proofs.YtcmkcloapenpnaaGreatDoor
