import Derived.Test.YtddddfcalknmlaaPkA
import Derived.Outline
namespace Go.Proofs.Ytddddfcalknmlaa
open Go.RowKit
set_option maxHeartbeats 3200000
set_option maxRecDepth 100000

/-- An item. -/
structure Itm where
  typ : Int
  data : List UInt8
instance : Inhabited Itm := ⟨⟨0, []⟩⟩
def Itm.bytes (e : Itm) : List UInt8 := [byt e.typ, byt ((e.data.length : Int) / 256), byt (e.data.length : Int)] ++ e.data
def putI (l : List Itm) : List UInt8 := l.flatMap Itm.bytes
def typesOk : List Itm → Bool
  | [] => true
  | e :: r => decide (0 ≤ e.typ ∧ e.typ ≤ 255) && typesOk r
def lensOk : List Itm → Bool
  | [] => true
  | e :: r => decide (e.data.length ≤ 65535) && lensOk r
theorem typesOk_drop {l : List Itm} {k : Nat} {e : Itm} (h : l[k]? = some e) : typesOk (l.drop k) = (decide (0 ≤ e.typ ∧ e.typ ≤ 255) && typesOk (l.drop (k + 1))) := by
  obtain ⟨hk, rfl⟩ := List.getElem?_eq_some_iff.1 h
  rw [List.drop_eq_getElem_cons hk, typesOk]
theorem lensOk_drop {l : List Itm} {k : Nat} {e : Itm} (h : l[k]? = some e) : lensOk (l.drop k) = (decide (e.data.length ≤ 65535) && lensOk (l.drop (k + 1))) := by
  obtain ⟨hk, rfl⟩ := List.getElem?_eq_some_iff.1 h
  rw [List.drop_eq_getElem_cons hk, lensOk]
theorem typesOk_at {l : List Itm} (h : typesOk l = true) {k : Nat} {e : Itm} (he : l[k]? = some e) : 0 ≤ e.typ ∧ e.typ ≤ 255 := by
  induction l generalizing k with
  | nil => simp at he
  | cons a r ih =>
    simp only [typesOk, Bool.and_eq_true, decide_eq_true_eq] at h
    cases k with
    | zero => simp at he; subst he; exact h.1
    | succ k => exact ih h.2 (by simpa using he)
theorem putI_take {l : List Itm} {k : Nat} {e : Itm} (h : l[k]? = some e) : putI (l.take (k + 1)) = putI (l.take k) ++ ([byt e.typ, byt ((e.data.length : Int) / 256), byt (e.data.length : Int)] ++ e.data) := by
  rw [List.take_add_one, h]
  simp [putI, Itm.bytes]
/-- A slice value reads as the items l below block B. -/
def RItm (w : World) (B : Nat) (A : Option Addr) (n : Nat) (l : List Itm) : Prop :=
  l.length = n ∧ (0 < n → ∃ b off, A = some ⟨b, off, none⟩ ∧ b < B ∧ ∀ (i : Nat) (e : Itm), l[i]? = some e →
    w.cell? ⟨b, off + i * 2, none⟩ = some (.int .i64 e.typ) ∧ ∃ D c, w.cell? ⟨b, off + i * 2 + 1, none⟩ = some (.slice D e.data.length c) ∧ RByt w B D e.data.length e.data ∧ (D = none → e.data.length = 0 ∧ c = 0))
theorem RItm.below {w w' : World} {B n : Nat} {A : Option Addr} {l : List Itm} (h : RItm w B A n l) (hb : Below B w w') : RItm w' B A n l := by
  refine ⟨h.1, fun hn => ?_⟩
  obtain ⟨b, off, hA, hB, hc⟩ := h.2 hn
  refine ⟨b, off, hA, hB, fun i e he => ?_⟩
  obtain ⟨h1, D, c, h2, h3, h4⟩ := hc i e he
  exact ⟨(hb.cell (p := ⟨b, _, none⟩) hB).trans h1, D, c, (hb.cell (p := ⟨b, _, none⟩) hB).trans h2, h3.below hb, h4⟩
theorem RItm.more {w : World} {B B' n : Nat} {A : Option Addr} {l : List Itm} (h : RItm w B A n l) (hB : B ≤ B') : RItm w B' A n l := by
  refine ⟨h.1, fun hn => ?_⟩
  obtain ⟨b, off, hA, hb, hc⟩ := h.2 hn
  refine ⟨b, off, hA, by omega, fun i e he => ?_⟩
  obtain ⟨h1, D, c, h2, h3, h4⟩ := hc i e he
  exact ⟨h1, D, c, h2, h3.more hB, h4⟩
/-- 'append(v, x...)', v the call's own, whatever x. -/
theorem wpList_append_any {P : Program} {w : World} {ops : Array Oper} {rest : List Oper} {o : Oper} {a : Act} {Q : Exit → Act → World → Prop} (hgd : o.guard = none) (s x : Operand) (t : TypeId)
    (ho : o.op = .call { callee := .builtin .append, args := #[s, x], argTypes := #[t, t] })
    (base : Nat) (e : TypeId) (i : TypeInfo) (z : Value) (size bytes : Nat) (ht : P.underlying t = some (.slice e)) (hi : P.info? e = some i) (hz : i.zero = some z)
    (hsize : i.size = size) (hby : i.bytes = bytes) (hzs : z.cells.size = size) (hsz : 0 < size)
    (v : Value) (k : Nat) (xs : List Value) (hs : a.eval s = v) (hown : w.ownsRow base e size v k xs) (A : Option Addr) (m c : Nat) (news : List Value) (hx : a.eval x = .slice A m c) (hA : A = none → m = 0 ∧ c = 0)
    (hl : news.length = m * size) (hnews : ∀ ad, A = some ad → ∀ j u, news[j]? = some u → w.cell? (ad.add j) = some u) (h1 : ∀ u ∈ news, u.oneCell' = true)
    (h63 : k + m ≤ maxLen) (hbytes : (k + m) * bytes ≤ 140737488355328) (hbase : base ≤ w.heap.size)
    (h : ∀ v' w', w'.ownsRow base e size v' (k + m) (xs ++ news) → Below base w w' → wpList P ops Q rest (a.put o.dst v') w') : wpList P ops Q (o :: rest) a w := by
  cases A with
  | none =>
    obtain ⟨rfl, rfl⟩ := hA rfl
    have hn0 : news = [] := List.length_eq_zero_iff.1 (by omega)
    subst hn0
    refine wpList_append_own_none hgd s x t ho base e i size ht hi v k xs hs hown hx (h _ _ ?_ (Below.refl _ _))
    simpa using hown
  | some ad =>
    refine wpList_append_own w hgd s x t ho base e i z size bytes ht hi hz hsize hby hzs hsz v k xs hs hown ad m c news hx hl (hnews ad rfl) h1 h63 hbytes hbase ?_
    intro v' w' h2 h3 _
    exact h v' w' h2 (Below.grown (Below.refl _ _) h3 hbase (fun k hk => (hown.lt k hk).1))

def PutIAns (l : List Itm) (w : World) (e : Ending) (w' : World) : Prop :=
  (typesOk l = true ∧ lensOk l = true ∧ ∃ v, e = .returned (.tuple #[v, .int .i64 0]) ∧ w'.ownsRow w.heap.size 5 1 v (putI l).length (bcells (putI l)) ∧ Below w.heap.size w w') ∨
  (typesOk l = true ∧ lensOk l = false ∧ e = .returned (.tuple #[.slice none 0 0, .int .i64 6]) ∧ Below w.heap.size w w') ∨
  (typesOk l = false ∧ e = .returned (.tuple #[.slice none 0 0, .int .i64 1]) ∧ Below w.heap.size w w')

theorem mask_i (x : Int) (h : 0 ≤ x) (h' : x < 4294967296) : bits .and .i64 x 255 = x % 256 := i64_mask 8 (by decide) 255 (by decide) x h (by omega)
theorem row3 {t : Int} {m : Nat} (h1 : 0 ≤ t) (h2 : t ≤ 255) (h3 : m ≤ 65535) : #[Value.int .u8 t, .int .u8 ((m : Int) / 256), .int .u8 ((m : Int) % 256)] = (bcells [byt t, byt ((m : Int) / 256), byt (m : Int)]).toArray := by
  simp only [bcells, List.map_cons, List.map_nil, byt_val]
  rw [show t % 256 = t by omega, show (m : Int) / 256 % 256 = (m : Int) / 256 by omega]
theorem refPutI_any (A : Option Addr) (n c : Nat) (l : List Itm) (w : World) (hr : RItm w w.heap.size A n l) (hn : n ≤ 1000) :
    Calls Try.prog 9 #[.slice A n c] w (PutIAns l w) := by
  obtain ⟨i5, hi, hz0, hz1, hz2⟩ := info_parts Try.info5
  have Ai := hid hi; have Az0 := hid hz0; have Az1 := hid hz1; have Az2 := hid hz2
  have Hl := hid hr.1
  have HR := hid hr
  clear hi hz0 hz1 hz2 hr
  go_enter Try.func9, Try.ntmps9
  go_wp2_with fail
  go_loopw [5] (fun i wr => ∃ k : Nat, k ≤ n ∧ i = .int .i64 k ∧ typesOk (l.drop k) = typesOk l ∧ wr = w) (fun i _ => n - (intOf i).toNat)
  case atStart => exact ⟨0, Nat.zero_le _, rfl, rfl, rfl⟩
  case round =>
    obtain ⟨k, hk, rfl, hok, hww⟩ := hrel
    have hws := hww.symm
    subst hws
    clear hww
    by_cases hlt : k < n
    · have Hok := hid hok
      obtain ⟨e, he⟩ : ∃ e, l[k]? = some e := ⟨l[k]'(by rw [Hl.out]; omega), List.getElem?_eq_getElem _⟩
      obtain ⟨b, off, rfl, hb, hc⟩ := HR.out.2 (by omega)
      have c0 := (hc k e he).1
      have Hd := hid (typesOk_drop he)
      clear hok hc he
      rcases (show decide (e.typ < 0) = true ∨ (decide (e.typ < 0) = false ∧ decide (255 < e.typ) = true) ∨ (decide (e.typ < 0) = false ∧ decide (255 < e.typ) = false) by simp only [decide_eq_true_eq, decide_eq_false_iff_not]; omega) with h1 | ⟨h1, h2⟩ | ⟨h1, h2⟩
      · have Ht : Hid (decide (0 ≤ e.typ ∧ e.typ ≤ 255) = false) := by simp at h1; exact decide_eq_false (by omega)
        go_wp2_with fail
        go_ret2
        exact .inr (.inr ⟨by rw [← Hok.out, Hd.out, Ht.out]; rfl, rfl, Below.refl _ _⟩)
      · have Ht : Hid (decide (0 ≤ e.typ ∧ e.typ ≤ 255) = false) := by simp at h2; exact decide_eq_false (by omega)
        go_wp2_with fail
        go_ret2
        exact .inr (.inr ⟨by rw [← Hok.out, Hd.out, Ht.out]; rfl, rfl, Below.refl _ _⟩)
      · have Ht : Hid (decide (0 ≤ e.typ ∧ e.typ ≤ 255) = true) := by simp at h1 h2; exact decide_eq_true (by omega)
        go_wp2_with fail
        go_roundw
        case rel => exact ⟨k + 1, by omega, by go_num, by rw [← Hok.out, Hd.out, Ht.out]; rfl, by first | rfl | trivial⟩
        case measure => simp [intOf]; omega
    · obtain rfl : k = n := by omega
      have htrue : typesOk l = true := by rw [← hok, List.drop_of_length_le (by rw [Hl.out]; omega)]; rfl
      have HT := hid htrue
      clear hok htrue
      go_wp2_with fail
      go_loopw [4, 6] (fun v i w2 => ∃ k' : Nat, k' ≤ k ∧ i = .int .i64 k' ∧ w2.ownsRow w.heap.size 5 1 v (putI (l.take k')).length (bcells (putI (l.take k'))) ∧ Hid ((putI (l.take k')).length ≤ k' * 65538 ∧ lensOk (l.drop k') = lensOk l) ∧ Below w.heap.size w w2) (fun _ i _ => k - (intOf i).toNat)
      case atStart => exact ⟨0, Nat.zero_le _, rfl, World.ownsRow_nil _ _ _ _, ⟨by simp [putI], rfl⟩, Below.refl _ _⟩
      case round =>
        obtain ⟨j, hj, rfl, hown, HB, hbel⟩ := hrel
        by_cases hjt : j < k
        · obtain ⟨e, he⟩ : ∃ e, l[j]? = some e := ⟨l[j]'(by rw [Hl.out]; omega), List.getElem?_eq_getElem _⟩
          obtain ⟨b, off, rfl, hb, hc⟩ := (HR.out.below hbel).2 (by omega)
          obtain ⟨c0, D, dc, c1, hrd, hD⟩ := hc j e he
          have Hd := hid (lensOk_drop he)
          have Ht := hid (putI_take he)
          have HRd := hid hrd
          have HD := hid hD
          have hty := typesOk_at HT.out he
          obtain ⟨y1, y2⟩ := hty
          clear hc he hrd hD
          by_cases hlong : e.data.length ≤ 65535
          · have tl : decide ((65535 : Int) < (e.data.length : Int)) = false := by simp; omega
            obtain ⟨m, hm⟩ : ∃ m, e.data.length = m := ⟨_, rfl⟩
            have Hm := hid hm
            rw [hm] at tl c1 hlong HRd HD
            have Hle : Hid (decide (e.data.length ≤ 65535) = true) := by rw [hm]; exact decide_eq_true hlong
            clear hm
            have mk := mask_i (m : Int) (by omega) (by omega)
            have hs := hbel.size
            have hlen := HB.out.1
            obtain ⟨p, hp⟩ : ∃ p, (putI (l.take j)).length = p := ⟨_, rfl⟩
            rw [hp] at hown hlen
            have Hp := hid hp
            clear hp
            have hpb : p + 3 + m ≤ 65538000 := by omega
            have N3 := hid (fun W : World => new_row (w := W) (t := 5) (row3 y1 y2 (m := m) hlong))
            go_wp2_with (first
              | (at_builtin; refine wpList_append_own _ rfl (.tmp 42) (.tmp 55) 23 rfl w.heap.size 5 i5 (.int .u8 0) 1 1 Try.underlying23 Ai.out Az0.out Az1.out Az2.out rfl (by decide) _ _ _ rfl (hown.alloc _) ⟨wr.heap.size, 0, none⟩ 3 3 (bcells [byt e.typ, byt ((m : Int) / 256), byt (m : Int)]) rfl rfl (N3.out _) (bcells_one _) (by unfold maxLen; omega) (by omega) (by simp; omega) ?_; intro v4 w4 hown4 hg4 _; have hb4 : Below w.heap.size wr w4 := Below.grown ((Below.refl _ _).alloc hs _) hg4 (by simp; omega) (fun k hk => (hown.lt k hk).1); have c1' := (hb4.cell (p := ⟨b, off + j * 2 + 1, none⟩) hb).trans c1; have hs4 := hb4.size; have HD4 := hid (HRd.out.below hb4); clear hg4)
              | (at_builtin; refine wpList_append_any rfl (.tmp 57) (.tmp 62) 23 rfl w.heap.size 5 i5 (.int .u8 0) 1 1 Try.underlying23 Ai.out Az0.out Az1.out Az2.out rfl (by decide) _ _ _ rfl hown4 D m dc (bcells e.data) rfl HD.out (by rw [bcells_len, Hm.out]; omega) (byt_src' HD4.out) (bcells_one _) (by unfold maxLen; omega) (by omega) (by omega) ?_; intro v5 w5 hown5 hb5))
            have hlen2 : (putI (l.take (j + 1))).length = p + 3 + m := by
              rw [Ht.out, List.length_append, Hp.out, List.length_append, Hm.out]; simp; omega
            have hcs : bcells (putI (l.take (j + 1))) = bcells (putI (l.take j)) ++ bcells [byt e.typ, byt ((m : Int) / 256), byt (m : Int)] ++ bcells e.data := by
              rw [Ht.out, Hm.out, bcells_app, bcells_app, List.append_assoc]
            go_roundw
            case rel => exact ⟨j + 1, by omega, by go_num, by rw [hlen2, hcs]; exact hown5, ⟨by rw [hlen2]; omega, by rw [← HB.out.2, Hd.out, Hle.out]; rfl⟩, hbel.trans (hb4.trans hb5)⟩
            case measure => simp [intOf]; omega
          · have tl : decide ((65535 : Int) < (e.data.length : Int)) = true := by simp; omega
            have Hle : Hid (decide (e.data.length ≤ 65535) = false) := decide_eq_false hlong
            go_wp2_with fail
            go_ret2
            exact .inr (.inl ⟨HT.out, by rw [← HB.out.2, Hd.out, Hle.out]; rfl, rfl, hbel⟩)
        · obtain rfl : j = k := by omega
          go_wp2_with fail
          go_ret2
          have ht := List.take_of_length_le (l := l) (i := j) (by rw [Hl.out]; omega)
          rw [ht] at hown
          exact .inl ⟨HT.out, by rw [← HB.out.2, List.drop_of_length_le (by rw [Hl.out]; omega)]; rfl, _, rfl, hown, hbel⟩
end Go.Proofs.Ytddddfcalknmlaa
