import Derived.Test.YtihbpggoieieoaaK
import Derived.Test.YtihbpggoieieoaaR
import Derived.Test.YtihbpggoieieoaaT6
import Derived.Laws.AppendOwnNone
import Derived.Laws.IdiomStrings
namespace Go.Proofs.Ytihbpggoieieoaa
open Go.RowKit
set_option maxHeartbeats 1600000
set_option maxRecDepth 100000

theorem conv_str {w : World} {B n c : Nat} {A : Option Addr} {bs : List UInt8} (h : RByt w B A n bs) : (convert 23 9 (.slice A n c)).run Try.prog w = .ok (.string ⟨bs.toArray⟩) w := by
  have hl := h.1
  rcases Nat.eq_zero_or_pos n with h0 | h0
  · subst h0
    obtain rfl := List.length_eq_zero_iff.1 hl
    rw [run_convert_bytes_string w 23 9 5 A 0 c Try.underlying23 Try.underlying5 Try.underlying9]
    cases A <;> simp [Conv.bytesToString, loadCells] <;> rfl
  · obtain ⟨b, off, rfl, _, hc⟩ := h.2 h0
    subst hl
    refine run_convert_bytes_back w 23 9 5 _ c bs Try.underlying23 Try.underlying5 Try.underlying9 (fun j hj => ?_)
    rw [Go.WideShapes.add_plain]
    exact hc j _ (List.getElem?_eq_getElem hj)

/-- 'append([]T(nil), x...)', whatever x: what it held is owned. -/
theorem wpList_copy {P : Program} {w : World} {ops : Array Oper} {rest : List Oper} {o : Oper} {a : Act} {Q : Exit → Act → World → Prop} (hgd : o.guard = none) (s x : Operand) (t : TypeId)
    (ho : o.op = .call { callee := .builtin .append, args := #[s, x], argTypes := #[t, t] })
    (base : Nat) (e : TypeId) (i : TypeInfo) (z : Value) (size bytes : Nat) (ht : P.underlying t = some (.slice e)) (hi : P.info? e = some i) (hz : i.zero = some z)
    (hsize : i.size = size) (hby : i.bytes = bytes) (hzs : z.cells.size = size) (hsz : 0 < size)
    (hs : a.eval s = .slice none 0 0) (A : Option Addr) (m c : Nat) (news : List Value) (hx : a.eval x = .slice A m c) (hA : A = none → m = 0 ∧ c = 0)
    (hl : news.length = m * size) (hnews : ∀ ad, A = some ad → ∀ j u, news[j]? = some u → w.cell? (ad.add j) = some u) (h1 : ∀ u ∈ news, u.oneCell' = true)
    (h63 : m ≤ maxLen) (hbytes : m * bytes ≤ 140737488355328) (hbase : base ≤ w.heap.size)
    (h : ∀ v' w', w'.ownsRow base e size v' m news → Below w.heap.size w w' → wpList P ops Q rest (a.put o.dst v') w') : wpList P ops Q (o :: rest) a w := by
  cases A with
  | none =>
    obtain ⟨rfl, rfl⟩ := hA rfl
    have hn0 : news = [] := List.length_eq_zero_iff.1 (by omega)
    subst hn0
    exact wpList_append_own_none hgd s x t ho base e i size ht hi _ 0 [] hs (World.ownsRow_nil _ _ _ _) hx (h _ _ (World.ownsRow_nil _ _ _ _) (Below.refl _ _))
  | some ad =>
    refine wpList_append_own w hgd s x t ho base e i z size bytes ht hi hz hsize hby hzs hsz _ 0 [] hs (World.ownsRow_nil _ _ _ _) ad m c news hx hl (hnews ad rfl) h1 (by omega) (by rw [Nat.zero_add]; exact hbytes) hbase ?_
    intro v' w' h2 h3 _
    rw [Nat.zero_add, List.nil_append] at h2
    exact h v' w' h2 (grown_below h3)

def outB (l : List Ent) : List UInt8 := if isStk l = true then putB l else []
def outE (l : List Ent) : Int := if isStk l = true then 0 else 1
def outG (bs : List UInt8) : List Ent := (getS bs).getD []
def outH (bs : List UInt8) : Int := if (getS bs).isSome = true then 0 else 2
theorem rbyt_nil (w : World) (B : Nat) (A : Option Addr) : RByt w B A 0 [] := ⟨rfl, fun h => by omega⟩
theorem rent_nil (w : World) (B : Nat) (A : Option Addr) : REnt w B A 0 [] := ⟨rfl, fun h => by omega⟩
theorem putA_out {f : FuncId} {l : List Ent} {v : Value} {w : World} (hc : Calls Try.prog f #[v] w (PutA l w)) :
    Calls Try.prog f #[v] w fun e w' => ∃ A c, e = .returned (.tuple #[.slice A (outB l).length c, .int .i64 (outE l)]) ∧ RByt w' w'.heap.size A (outB l).length (outB l) ∧ Below w.heap.size w w' := by
  refine hc.mono fun e w' ha => ?_
  rcases ha with ⟨h, v', he, ho, hb⟩ | ⟨h, he, hb⟩
  · obtain ⟨A, c, rfl, hr⟩ := own_byt ho
    have hl : (outB l).length = 4 * l.length := by unfold outB; rw [if_pos h, putB_len]
    rw [hl]
    exact ⟨A, c, by rw [he]; simp [outE, h], by unfold outB; rw [if_pos h]; exact hr, hb⟩
  · have hl : outB l = [] := by unfold outB; rw [if_neg (by rw [h]; simp)]
    rw [hl]
    exact ⟨none, 0, by rw [he]; simp [outE, h], rbyt_nil _ _ _, hb⟩
theorem getA_out {f : FuncId} {bs : List UInt8} {v : Value} {w : World} (hc : Calls Try.prog f #[v] w (GetAns bs w)) :
    Calls Try.prog f #[v] w fun e w' => ∃ A c, e = .returned (.tuple #[.slice A (outG bs).length c, .int .i64 (outH bs)]) ∧ REnt w' w'.heap.size A (outG bs).length (outG bs) ∧ Below w.heap.size w w' := by
  refine hc.mono fun e w' ha => ?_
  rcases ha with ⟨l, h, v', he, ho, hb⟩ | ⟨h, he, hb⟩
  · obtain ⟨A, c, rfl, hr⟩ := own_ent ho
    have hl : outG bs = l := by unfold outG; rw [h]; rfl
    rw [hl]
    exact ⟨A, c, by rw [he]; simp [outH, h], hr, hb⟩
  · have hl : outG bs = [] := by unfold outG; rw [h]; rfl
    rw [hl]
    exact ⟨none, 0, by rw [he]; simp [outH, h], rent_nil _ _ _, hb⟩
theorem outG_len (bs : List UInt8) : (outG bs).length ≤ 1000 := by
  unfold outG getS
  split
  · rename_i h; simp only [Option.getD_some]; rw [entsOf_len]; omega
  · simp
theorem ent_src {w : World} {B n : Nat} {A : Option Addr} {l : List Ent} (h : REnt w B A n l) : ∀ ad, A = some ad → ∀ (j : Nat) (u : Value), (flat l)[j]? = some u → w.cell? (ad.add j) = some u := by
  intro ad hA j u hu
  have hj : j < (flat l).length := (List.getElem?_eq_some_iff.1 hu).1
  rw [flat_len, h.1] at hj
  obtain ⟨b, off, h1, _, hc⟩ := h.2 (by omega)
  rw [hA] at h1
  simp only [Option.some.injEq] at h1
  subst h1
  rw [Go.WideShapes.add_plain]
  have hi : l[j / 4]? = some (l[j / 4]'(by rw [h.1]; omega)) := List.getElem?_eq_getElem _
  obtain ⟨c0, c1, c2, c3⟩ := hc _ _ hi
  have hf := flat_at hi (j % 4) (by omega)
  rw [show j / 4 * 4 + j % 4 = j by omega, hu] at hf
  have h4 : j % 4 = 0 ∨ j % 4 = 1 ∨ j % 4 = 2 ∨ j % 4 = 3 := by omega
  rcases h4 with h4 | h4 | h4 | h4 <;> rw [h4] at hf <;> simp [Ent.cells] at hf <;> subst hf
  · rw [show off + j = off + j / 4 * 4 by omega]; exact c0
  · rw [show off + j = off + j / 4 * 4 + 1 by omega]; exact c1
  · rw [show off + j = off + j / 4 * 4 + 2 by omega]; exact c2
  · rw [show off + j = off + j / 4 * 4 + 3 by omega]; exact c3
theorem byt_src' {w : World} {B n : Nat} {A : Option Addr} {bs : List UInt8} (h : RByt w B A n bs) : ∀ ad, A = some ad → ∀ (j : Nat) (u : Value), (bcells bs)[j]? = some u → w.cell? (ad.add j) = some u := by
  intro ad hA j u hu
  have hj : j < (bcells bs).length := (List.getElem?_eq_some_iff.1 hu).1
  rw [bcells_len, h.1] at hj
  obtain ⟨b, off, h1, _, _⟩ := h.2 (by omega)
  subst h1
  simp only [Option.some.injEq] at hA
  subst hA
  exact byt_src h (by omega) j u hu

theorem tells_out (A A' : Option Addr) (n c n' c' : Nat) (w : World) (h : 1100 < n ∨ 5000 < n') :
    Calls Try.prog 3 #[.slice A n c, .slice A' n' c'] w fun e w' => e = .returned (.bool true) ∧ Below w.heap.size w w' := by
  rcases (show decide ((1100 : Int) < n) = true ∨ (decide ((1100 : Int) < n) = false ∧ decide ((5000 : Int) < n') = true) by simp only [decide_eq_true_eq, decide_eq_false_iff_not]; omega) with h1 | ⟨h1, h2⟩ <;>
  · clear h
    go_enter Try.func3, Try.ntmps3
    go_wp2_with (go_at_call 7; (with_reducible refine (alive_any _).mono ?_); rintro e' w1 ⟨rfl, hb1⟩)
    go_ret
    exact ⟨rfl, hb1⟩

theorem get_back {l : List Ent} {w : World} {A : Option Addr} (c : Nat) (h : isStk l = true) (hr : RByt w w.heap.size A (outB l).length (outB l)) :
    Calls Try.prog 10 #[.slice A (outB l).length c] w fun e w' => ∃ A' c', e = .returned (.tuple #[.slice A' l.length c', .int .i64 0]) ∧ REnt w' w'.heap.size A' l.length l ∧ Below w.heap.size w w' := by
  have h1 : outB l = putB l := by unfold outB; rw [if_pos h]
  have h2 : outG (putB l) = l := by unfold outG; rw [getS_putB h]; rfl
  have h3 : outH (putB l) = 0 := by unfold outH; rw [getS_putB h]; rfl
  have := getA_out (get_all A _ c (outB l) w hr)
  rw [h1, h2, h3] at this
  rw [h1]
  exact this
theorem same_self {v v' : Value} {l : List Ent} {w : World} (h : Calls Try.prog 13 #[v, v'] w fun e w' => e = .returned (.bool (decide (l = l))) ∧ Below w.heap.size w w') :
    Calls Try.prog 13 #[v, v'] w fun e w' => e = .returned (.bool true) ∧ Below w.heap.size w w' := by simpa using h

theorem tells_in (A A' : Option Addr) (n c n' c' : Nat) (l : List Ent) (bs : List UInt8) (w : World) (hr : REnt w w.heap.size A n l) (hr' : RByt w w.heap.size A' n' bs) (hA : A = none → n = 0 ∧ c = 0) (hA' : A' = none → n' = 0 ∧ c' = 0) (hn : n ≤ 1100) (hn' : n' ≤ 5000) :
    Calls Try.prog 3 #[.slice A n c, .slice A' n' c'] w fun e w' => e = .returned (.bool true) ∧ Below w.heap.size w w' := by
  have t1 : decide ((1100 : Int) < n) = false := by simp; omega
  have t2 : decide ((5000 : Int) < n') = false := by simp; omega
  obtain ⟨i5, hi, hz0, hz1, hz2⟩ := info_parts Try.info5
  have Ai := hid hi; have Az0 := hid hz0; have Az1 := hid hz1; have Az2 := hid hz2
  clear hi hz0 hz1 hz2
  obtain ⟨i38, hi, hz0, hz1, hz2⟩ := info_parts Try.info38
  have Bi := hid hi; have Bz0 := hid hz0; have Bz1 := hid hz1; have Bz2 := hid hz2
  clear hi hz0 hz1 hz2
  have HR := hid hr; have HR' := hid hr'; have HA := hid hA; have HA' := hid hA'
  clear hr hr' hA hA'
  go_enter Try.func3, Try.ntmps3
  go_wp2_with (first
    | (go_at_call 7; (with_reducible refine (alive_any _).mono ?_); rintro e' w1 ⟨rfl, hb1⟩; have hr1 := (HR.out.below hb1).more hb1.size; have HR1 := hid hr1; clear hr1)
    | (at_builtin; refine wpList_copy rfl (.const (.slice none 0 0)) (.tmp 31) 22 rfl w1.heap.size 38 i38 (.agg #[.int .i64 0, .int .i64 0, .int .i64 0, .bool false]) 4 32 Try.underlying22 Bi.out Bz0.out Bz1.out Bz2.out rfl (by decide) rfl A n c (flat l) rfl HA.out (by rw [flat_len, HR1.out.1]) (ent_src HR1.out) (flat_one _) (by unfold maxLen; omega) (by omega) (Nat.le_refl _) ?_; intro v2 w2 hown2 hb2))
  have hw1 := hb1.size
  obtain ⟨A2, c2, rfl, hr2⟩ := own_ent hown2
  have hb02 := hb1.trans (hb2.mono hw1)
  have HP := hid (putA_out (put_all A2 n c2 l w2 hr2))
  clear hown2 hr2
  refine HP.out.mono ?_
  rintro e' w3 ⟨Ax, cx, rfl, hrx, hb3⟩
  have hb03 := hb02.trans (hb3.mono hb02.size)
  have HP2 := hid (putA_out (ref_all A n c l w3 ((HR.out.below hb03).more hb03.size)))
  have HX := hid hrx
  clear hrx HP
  go_wp2_with fail
  refine HP2.out.mono ?_
  rintro e' w4 ⟨Ay, cy, rfl, hry, hb4⟩
  have hb04 := hb03.trans (hb4.mono hb03.size)
  have HX4 := hid ((HX.out.below hb4).more hb4.size)
  have HY4 := hid hry
  have HB4 := hid ((HR'.out.below hb04).more hb04.size)
  clear hry HP2
  go_wp2_with (at_builtin; refine wpList_copy rfl (.const (.slice none 0 0)) (.tmp 42) 23 rfl w4.heap.size 5 i5 (.int .u8 0) 1 1 Try.underlying23 Ai.out Az0.out Az1.out Az2.out rfl (by decide) rfl A' n' c' (bcells bs) rfl HA'.out (by rw [bcells_len, HB4.out.1]; omega) (byt_src' HB4.out) (bcells_one _) (by unfold maxLen; omega) (by omega) (Nat.le_refl _) ?_; intro v5 w5 hown5 hb5)
  obtain ⟨A5, c5, rfl, hr5⟩ := own_byt hown5
  have hb05 := hb04.trans (hb5.mono hb04.size)
  have HX5 := hid ((HX4.out.below hb5).more hb5.size)
  have HY5 := hid ((HY4.out.below hb5).more hb5.size)
  have HG := hid (getA_out (get_all A5 n' c5 bs w5 hr5))
  clear hown5 hr5
  refine HG.out.mono ?_
  rintro e' w6 ⟨Ap, cp, rfl, hrp, hb6⟩
  have hb06 := hb05.trans (hb6.mono hb05.size)
  have HX6 := hid ((HX5.out.below hb6).more hb6.size)
  have HY6 := hid ((HY5.out.below hb6).more hb6.size)
  have HG2 := hid (getA_out (refGet_all A' n' c' bs w6 ((HR'.out.below hb06).more hb06.size)))
  have HP6 := hid hrp
  clear hrp HG
  go_wp2_with fail
  refine HG2.out.mono ?_
  rintro e' w7 ⟨Aq, cq, rfl, hrq, hb7⟩
  have hb07 := hb06.trans (hb7.mono hb06.size)
  have HX7 := hid ((HX6.out.below hb7).more hb7.size)
  have HY7 := hid ((HY6.out.below hb7).more hb7.size)
  have HP7 := hid ((HP6.out.below hb7).more hb7.size)
  have HQ7 := hid hrq
  have HS := hid (same_all Ap Aq _ _ cp cq _ _ w7 HP7.out HQ7.out (Nat.le_trans (outG_len bs) (by omega)))
  have kx := conv_str (c := cx) HX7.out
  have ky := conv_str (c := cy) HY7.out
  clear hrq HG2
  generalize outH bs = hh at *
  generalize outG bs = gg at *
  go_wp2_with (first
    | (go_at_call 12; (with_reducible refine (num_any _ _).mono ?_); rintro e' w8 ⟨rfl, rfl⟩)
    | (go_at_call 13; (with_reducible refine HS.out.mono ?_); rintro e' w8 ⟨rfl, hb8⟩))
  · go_ret
    exact ⟨rfl, hb07.trans (hb8.mono hb07.size)⟩
  · have hE : (outE l != 0) = false := by assumption
    have hs : isStk l = true := by
      cases hs : isStk l with
      | true => rfl
      | false => simp [outE, hs] at hE
    have hb08 := hb07.trans (hb8.mono hb07.size)
    have HX8 := hid ((HX7.out.below hb8).more hb8.size)
    have HGx := hid (get_back cx hs HX8.out)
    have Hl := hid HR.out.1
    clear kx ky
    rw [Hl.out] at HGx
    refine HGx.out.mono ?_
    rintro e' w9 ⟨Az, cz, rfl, hrz, hb9⟩
    have hb09 := hb08.trans (hb9.mono hb08.size)
    have HSz := hid (same_self (same_all Az A n n cz c l l w9 hrz ((HR.out.below hb09).more hb09.size) (by omega)))
    clear hrz HGx
    go_wp2_with (first
      | (go_at_call 12; (with_reducible refine (num_any _ _).mono ?_); rintro e' w8 ⟨rfl, rfl⟩)
      | (go_at_call 13; (with_reducible refine HSz.out.mono ?_); rintro e' w10 ⟨rfl, hb10⟩))
    go_ret
    exact ⟨rfl, hb09.trans (hb10.mono hb09.size)⟩
theorem tells_any (A A' : Option Addr) (n c n' c' : Nat) (l : List Ent) (bs : List UInt8) (w : World) (hr : REnt w w.heap.size A n l) (hr' : RByt w w.heap.size A' n' bs) (hA : A = none → n = 0 ∧ c = 0) (hA' : A' = none → n' = 0 ∧ c' = 0) :
    Calls Try.prog 3 #[.slice A n c, .slice A' n' c'] w fun e w' => e = .returned (.bool true) ∧ Below w.heap.size w w' := by
  by_cases h : 1100 < n ∨ 5000 < n'
  · exact tells_out A A' n c n' c' w h
  · exact tells_in A A' n c n' c' l bs w hr hr' hA hA' (by omega) (by omega)
end Go.Proofs.Ytihbpggoieieoaa
