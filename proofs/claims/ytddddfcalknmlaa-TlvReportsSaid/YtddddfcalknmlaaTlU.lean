/- tlv.Put. -/
import Derived.Test.YtddddfcalknmlaaTlP
namespace Go.Proofs.Ytddddfcalknmlaa
open Go.RowKit
set_option maxHeartbeats 3200000
set_option maxRecDepth 100000

theorem put_no (A : Option Addr) (n c : Nat) (l : List Itm) (B : Nat) (w : World) (hB : B ≤ w.heap.size) (hr : RItm w B A n l) (hn : n ≤ maxLen) (x : Int) (hx : chk l = x) (h0 : (x == 0) = false) :
    Calls Try.prog 8 #[.slice A n c] w fun e w' => e = .returned (.tuple #[.slice none 0 0, .int .i64 x]) ∧ Below w.heap.size w w' := by
  have hc := check_any A n c l B w hB hr hn
  rw [hx] at hc
  have HC := hid hc
  clear hr hx hc
  have h1 : (x != 0) = true := by simp at h0 ⊢; exact h0
  go_enter Try.func8, Try.ntmps8
  go_wp2_with (go_at_call 17; (with_reducible refine HC.out.mono ?_); rintro e' w1 ⟨rfl, hb1⟩)
  go_ret2
  exact ⟨rfl, hb1⟩
theorem box_kept {wr w4 : World} {B e s n : Nat} {v : Value} {xs : List Value} {cs : Array Value} {t : TypeId} {o2 : Obj} (hown : wr.ownsRow B e s v n xs) (hg : ((wr.alloc (.cells cs t)).alloc o2).grownBy w4 v.ownBlock) (j : Nat) (u : Value) (h : cs[j]? = some u) : w4.cell? ⟨wr.heap.size, j, none⟩ = some u := by
  refine hg.cell ?_ ?_
  · have h1 : ((wr.alloc (.cells cs t)).alloc o2).cell? ⟨wr.heap.size, j, none⟩ = (wr.alloc (.cells cs t)).cell? ⟨wr.heap.size, j, none⟩ := World.cell?_of_block (Below.heap_alloc _ _ _ (by simp))
    rw [h1, cell_of_row _ _ _ _ _ _ (heap_alloc_new wr _)]
    exact h
  · intro hc
    have := (hown.lt wr.heap.size hc.symm).2
    omega
theorem put_yes (A : Option Addr) (n c : Nat) (l : List Itm) (w : World) (hr : RItm w w.heap.size A n l) (hn : n ≤ 1000) (ht : typesOk l = true) (hl : lensOk l = true) :
    Calls Try.prog 8 #[.slice A n c] w fun e w' => ∃ v, e = .returned (.tuple #[v, .int .i64 0]) ∧ w'.ownsRow w.heap.size 5 1 v (putI l).length (bcells (putI l)) ∧ Below w.heap.size w w' := by
  obtain ⟨i5, hi, hz0, hz1, hz2⟩ := info_parts Try.info5
  have Ai := hid hi; have Az0 := hid hz0; have Az1 := hid hz1; have Az2 := hid hz2
  have Hl := hid hr.1
  have HR := hid hr
  have hc := check_any A n c l w.heap.size w (Nat.le_refl _) hr (by unfold maxLen; omega)
  have hx : chk l = 0 := by unfold chk; rw [ht, hl]; rfl
  rw [hx] at hc
  have HC := hid hc
  have HT := hid ht
  have HLn := hid hl
  clear hi hz0 hz1 hz2 hr hx hc ht hl
  go_enter Try.func8, Try.ntmps8
  go_wp2_with (go_at_call 17; (with_reducible refine HC.out.mono ?_); rintro e' w1 ⟨rfl, hb1⟩)
  go_loopw [5, 16] (fun v i w2 => ∃ k' : Nat, k' ≤ n ∧ i = .int .i64 k' ∧ w2.ownsRow w.heap.size 5 1 v (putI (l.take k')).length (bcells (putI (l.take k'))) ∧ Hid ((putI (l.take k')).length ≤ k' * 65538) ∧ Below w.heap.size w w2) (fun _ i _ => n - (intOf i).toNat)
  case atStart => exact ⟨0, Nat.zero_le _, rfl, World.ownsRow_nil _ _ _ _, (by simp [putI, Hid]), hb1⟩
  case round =>
    obtain ⟨j, hj, rfl, hown, HB, hbel⟩ := hrel
    by_cases hjt : j < n
    · obtain ⟨e, he⟩ : ∃ e, l[j]? = some e := ⟨l[j]'(by rw [Hl.out]; omega), List.getElem?_eq_getElem _⟩
      obtain ⟨b, off, rfl, hb, hc⟩ := (HR.out.below hbel).2 (by omega)
      obtain ⟨c0, D, dc, c1, hrd, hD⟩ := hc j e he
      have Ht := hid (putI_take he)
      have HRd := hid hrd
      have HD := hid hD
      have hty := typesOk_at HT.out he
      have hlong := lensOk_at HLn.out he
      obtain ⟨y1, y2⟩ := hty
      clear hc he hrd hD
      obtain ⟨m, hm⟩ : ∃ m, e.data.length = m := ⟨_, rfl⟩
      have Hm := hid hm
      rw [hm] at c1 hlong HRd HD
      clear hm
      have hs := hbel.size
      have hlen := HB.out
      obtain ⟨p, hp⟩ : ∃ p, (putI (l.take j)).length = p := ⟨_, rfl⟩
      rw [hp] at hown hlen
      have Hp := hid hp
      clear hp
      have hpb : p + 3 + m ≤ 65538000 := by omega
      have N3 := hid (fun W : World => new_row (w := W) (t := 5) (row3 y1 y2 (m := m) hlong))
      have tw : IntKind.u8.wrap ((m : Int)) = (m : Int) % 256 := by rw [IntKind.wrap_u8]
      go_wp2_with (first
        | (at_builtin; refine wpList_append_own _ rfl (.tmp 23) (.tmp 32) 23 rfl w.heap.size 5 i5 (.int .u8 0) 1 1 Try.underlying23 Ai.out Az0.out Az1.out Az2.out rfl (by decide) _ _ _ rfl ((hown.alloc _).alloc _) ⟨wr.heap.size + 1, 0, none⟩ 3 3 (bcells [byt e.typ, byt ((m : Int) / 256), byt (m : Int)]) (by first | rfl | simp) rfl (by have := N3.out (wr.alloc (.cells #[.int .i64 e.typ, .slice D m dc] 26)); simpa using this) (bcells_one _) (by unfold maxLen; omega) (by omega) (by simp; omega) ?_; intro v4 w4 hown4 hg4 _; have hb4 : Below w.heap.size wr w4 := Below.grown (((Below.refl _ _).alloc hs _).alloc (by simp; omega) _) hg4 (by simp; omega) (fun k hk => (hown.lt k hk).1); have d1 := box_kept hown hg4 1 _ rfl; have hs4 := hb4.size; have HD4 := hid (HRd.out.below hb4); clear hg4)
        | (at_builtin; refine wpList_append_any rfl (.tmp 34) (.tmp 36) 23 rfl w.heap.size 5 i5 (.int .u8 0) 1 1 Try.underlying23 Ai.out Az0.out Az1.out Az2.out rfl (by decide) _ _ _ rfl hown4 D m dc (bcells e.data) rfl HD.out (by rw [bcells_len, Hm.out]; omega) (byt_src' HD4.out) (bcells_one _) (by unfold maxLen; omega) (by omega) (by omega) ?_; intro v5 w5 hown5 hb5))
      have hlen2 : (putI (l.take (j + 1))).length = p + 3 + m := by
        rw [Ht.out, List.length_append, Hp.out, List.length_append, Hm.out]; simp; omega
      have hcs : bcells (putI (l.take (j + 1))) = bcells (putI (l.take j)) ++ bcells [byt e.typ, byt ((m : Int) / 256), byt (m : Int)] ++ bcells e.data := by
        rw [Ht.out, Hm.out, bcells_app, bcells_app, List.append_assoc]
      go_roundw
      case rel => exact ⟨j + 1, by omega, by go_num, by rw [hlen2, hcs]; exact hown5, (by rw [hlen2]; unfold Hid; omega), hbel.trans (hb4.trans hb5)⟩
      case measure => simp [intOf]; omega
    · obtain rfl : j = n := by omega
      go_wp2_with fail
      go_ret2
      have ht := List.take_of_length_le (l := l) (i := j) (by rw [Hl.out]; omega)
      rw [ht] at hown
      exact ⟨_, rfl, hown, hbel⟩
theorem put_any (A : Option Addr) (n c : Nat) (l : List Itm) (w : World) (hr : RItm w w.heap.size A n l) (hn : n ≤ 1000) : Calls Try.prog 8 #[.slice A n c] w (PutIAns l w) := by
  have hm : n ≤ maxLen := by unfold maxLen; omega
  cases ht : typesOk l with
  | false => exact (put_no A n c l _ w (Nat.le_refl _) hr hm 1 (by unfold chk; rw [ht]; rfl) rfl).mono fun e w' ⟨h1, h2⟩ => .inr (.inr ⟨ht, h1, h2⟩)
  | true =>
    cases hl : lensOk l with
    | false => exact (put_no A n c l _ w (Nat.le_refl _) hr hm 6 (by unfold chk; rw [ht, hl]; rfl) rfl).mono fun e w' ⟨h1, h2⟩ => .inr (.inl ⟨ht, hl, h1, h2⟩)
    | true => exact (put_yes A n c l w hr hn ht hl).mono fun e w' ⟨v, h1, h2, h3⟩ => .inl ⟨ht, hl, v, h1, h2, h3⟩
end Go.Proofs.Ytddddfcalknmlaa
