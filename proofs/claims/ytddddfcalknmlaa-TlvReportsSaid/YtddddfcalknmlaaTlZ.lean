/- TlvReports. -/
import Derived.Test.YtddddfcalknmlaaTlY
namespace Go.Proofs.Ytddddfcalknmlaa
open Go.RowKit
set_option maxHeartbeats 6400000
set_option maxRecDepth 100000
def lkOf (x : Int) : Int × Int := (x % 65536, x / 65536 % 2)
def it3 (x : Int) : Itm := ⟨1, [byt (x % 65536 / 256), byt (x % 65536), byt (x / 65536 % 2)]⟩
def itk (y : Int) : Itm := ⟨2 + y % 128, List.replicate (y % 8).toNat 0⟩
def rp (x y : Int) : List Itm := it3 x :: (if y % 2 = 1 then [itk y] else [])
def rl (xs ys : List Int) (k : Nat) : List Itm := (List.range k).flatMap fun i => rp (xs.getD i 0) (ys.getD i 0)
def wl (xs : List Int) (k : Nat) : List (Int × Int) := (List.range k).map fun i => lkOf (xs.getD i 0)
theorem rl_succ {xs ys : List Int} {k : Nat} {x y : Int} (hx : xs[k]? = some x) (hy : ys[k]? = some y) : rl xs ys (k + 1) = rl xs ys k ++ rp x y := by
  simp [rl, List.range_succ, hx, hy]
theorem wl_succ {xs : List Int} {k : Nat} {x : Int} (hx : xs[k]? = some x) : wl xs (k + 1) = wl xs k ++ [lkOf x] := by
  simp [wl, List.range_succ, hx]
theorem wl_len (xs : List Int) (k : Nat) : (wl xs k).length = k := by simp [wl]
theorem rp_len (x y : Int) : (rp x y).length ≤ 2 := by unfold rp; split <;> simp
theorem rl_len (xs ys : List Int) (k : Nat) : (rl xs ys k).length ≤ 2 * k := by
  induction k with
  | zero => simp [rl]
  | succ k ih =>
    have := rp_len (xs.getD k 0) (ys.getD k 0)
    have h : rl xs ys (k + 1) = rl xs ys k ++ rp (xs.getD k 0) (ys.getD k 0) := by simp [rl, List.range_succ]
    rw [h, List.length_append]; omega
theorem linksOf_app (a b : List Itm) : linksOf (a ++ b) = (linksOf a).bind fun m => (linksOf b).map (m ++ ·) := by
  induction a with
  | nil => simp [linksOf]
  | cons e r ih =>
    simp only [List.cons_append, linksOf]
    split
    · split
      · rw [ih]
        cases linksOf r with
        | none => rfl
        | some m => cases linksOf b <;> simp
      · rfl
    · exact ih
theorem typesOk_app (a b : List Itm) : typesOk (a ++ b) = (typesOk a && typesOk b) := by
  induction a with
  | nil => simp [typesOk]
  | cons e r ih => simp only [List.cons_append, typesOk, ih, Bool.and_assoc]
theorem lensOk_app (a b : List Itm) : lensOk (a ++ b) = (lensOk a && lensOk b) := by
  induction a with
  | nil => simp [lensOk]
  | cons e r ih => simp only [List.cons_append, lensOk, ih, Bool.and_assoc]
theorem lk_it3 (x : Int) : lk (it3 x).data = lkOf x ∧ isL (it3 x).data = true := by
  have h1 := byt_val (x % 65536 / 256)
  have h2 := byt_val (x % 65536)
  have h3 := byt_val (x / 65536 % 2)
  constructor
  · refine Prod.ext ?_ ?_
    · show ((num2 (byt (x % 65536 / 256)) (byt (x % 65536)) : Nat) : Int) = x % 65536
      unfold num2; omega
    · show (((byt (x / 65536 % 2)).toNat : Nat) : Int) = x / 65536 % 2
      omega
  · simp only [it3, isL, List.length_cons, List.length_nil, List.getD_cons_succ, List.getD_cons_zero, Bool.and_eq_true, decide_eq_true_eq]
    exact ⟨rfl, by omega⟩
theorem linksOf_rp (x y : Int) : linksOf (rp x y) = some [lkOf x] := by
  obtain ⟨h1, h2⟩ := lk_it3 x
  unfold rp
  rw [linksOf, if_pos (show (it3 x).typ = 1 from rfl), if_pos h2, h1]
  split
  · have : ¬ (itk y).typ = 1 := by show ¬ 2 + y % 128 = 1; omega
    simp [linksOf, this]
  · simp [linksOf]
theorem rp_ok (x y : Int) : typesOk (rp x y) = true ∧ lensOk (rp x y) = true := by
  unfold rp
  split
  · have h : 0 ≤ 2 + y % 128 ∧ 2 + y % 128 ≤ 255 := by omega
    have h' : decide (0 ≤ 2 + y % 128 ∧ 2 + y % 128 ≤ 255) = true := decide_eq_true h
    have h1 : typesOk [it3 x, itk y] = true := by
      show (decide ((0 : Int) ≤ 1 ∧ (1 : Int) ≤ 255) && (decide (0 ≤ 2 + y % 128 ∧ 2 + y % 128 ≤ 255) && true)) = true
      rw [h']; rfl
    have h2 : lensOk [it3 x, itk y] = true := by
      have h : (List.replicate (y % 8).toNat (0 : UInt8)).length ≤ 65535 := by rw [List.length_replicate]; omega
      show (decide (3 ≤ 65535) && (decide ((List.replicate (y % 8).toNat (0 : UInt8)).length ≤ 65535) && true)) = true
      rw [decide_eq_true h]; rfl
    exact ⟨h1, h2⟩
  · exact ⟨rfl, rfl⟩
theorem rl_all (xs ys : List Int) (k : Nat) : typesOk (rl xs ys k) = true ∧ lensOk (rl xs ys k) = true ∧ linksOf (rl xs ys k) = some (wl xs k) := by
  induction k with
  | zero => simp [rl, wl, typesOk, lensOk, linksOf]
  | succ k ih =>
    have h : rl xs ys (k + 1) = rl xs ys k ++ rp (xs.getD k 0) (ys.getD k 0) := by simp [rl, List.range_succ]
    have hw : wl xs (k + 1) = wl xs k ++ [lkOf (xs.getD k 0)] := by simp [wl, List.range_succ]
    obtain ⟨h1, h2⟩ := rp_ok (xs.getD k 0) (ys.getD k 0)
    rw [h, hw, typesOk_app, lensOk_app, linksOf_app, ih.1, ih.2.1, ih.2.2, h1, h2, linksOf_rp]
    simp
theorem rep_rl (xs ys : List Int) (k : Nat) : repI (putI (rl xs ys k)) = some (wl xs k) := by
  obtain ⟨h1, h2, h3⟩ := rl_all xs ys k
  unfold repI
  rw [getI_put h1 h2]
  exact h3
theorem links_yes {f : FuncId} {bs : List UInt8} {m : List (Int × Int)} {v : Value} {w : World} {n : Nat} (h : repI bs = some m) (hn : m.length = n) (hc : Calls Try.prog f #[v] w (RepAns bs w)) :
    Calls Try.prog f #[v] w fun e w' => ∃ A c, e = .returned (.tuple #[.slice A n c, .int .i64 0]) ∧ RPr w' w'.heap.size A n m ∧ Below w.heap.size w w' := by
  have h1 : outL bs = m := by unfold outL; rw [h]; rfl
  have h2 : outJ bs = 0 := by unfold outJ; rw [h]; rfl
  have h3 := links_out hc
  rw [h1, h2, hn] at h3
  exact h3
/-- An item with its bytes just made is appended. -/
theorem push_item {wr w4 : World} {B cnt m : Nat} {v : Value} {cs : List Value} {L : List Itm} {e : Itm} {bts : Array Value} {oi : Obj} (hown : wr.ownsRow B 26 2 v cnt cs) (hoi : OItm wr B cs L) (hl : L.length = cnt) (hB : B ≤ wr.heap.size)
    (he : e.data.length = m) (hm : m ≤ maxLen) (hb : bts = (bcells e.data).toArray) (hg : ((wr.alloc (.cells bts 5)).alloc oi).grownBy w4 v.ownBlock) :
    OItm w4 B (cs ++ [.int .i64 e.typ, .slice (some ⟨wr.heap.size, 0, none⟩) m m]) (L ++ [e]) ∧ Below B wr w4 := by
  subst hb he
  have hd := World.ownsRow_lit (e := 5) (size := 1) (base := B) wr (bcells e.data).toArray e.data.length hB hm (by simp [bcells_len])
  have h := (hoi.below (w' := wr.alloc (.cells (bcells e.data).toArray 5)) ((Below.refl _ _).alloc (Nat.le_refl _) _)).snoc (e := e) (by rw [hown.1, hl]) hd
  exact ⟨(h.below ((Below.refl _ _).alloc (Nat.le_refl _) oi)).kept ((hown.alloc _).alloc oi) (by decide) hg, Below.grown (((Below.refl _ _).alloc hB _).alloc (by simp; omega) _) hg (by simp; omega) (fun q hq => (hown.lt q hq).1)⟩
def zrow (n : Nat) : Array Value := (bcells (List.replicate n 0)).toArray
theorem mk_bytes (n : Nat) (hn : n ≤ 1000) (W : World) : (Instr.makeSlice 23 (.int .i64 (n : Int)) (.int .i64 (n : Int))).run Try.prog W = .ok (.slice (some ⟨W.heap.size, 0, none⟩) n n) (W.alloc (.cells (zrow n) 5)) := by
  obtain ⟨i5, hi, hz0, hz1, hz2⟩ := info_parts Try.info5
  have h := run_make (P := Try.prog) W 23 5 i5 (.int .u8 0) Try.underlying23 hi hz0 .i64 .i64 (n : Int) (n : Int) (by omega) (Int.le_refl _) (by rw [hz2]; omega) (by omega)
  rw [hz1, Int.toNat_natCast] at h
  have hz : madeCells (Value.int .u8 0).cells (n * 1) = zrow n := by
    apply Array.ext'
    rw [made_zero]; simp [zrow]
  rw [h, hz]
theorem news_two (w : World) (a : Int) (q : Nat) (o : Obj) : ∀ (j : Nat) (u : Value), [Value.int .i64 a, .slice (some ⟨w.heap.size, 0, none⟩) q q][j]? = some u → ((w.drew.alloc o).alloc (.cells #[.int .i64 a, .slice (some ⟨w.heap.size, 0, none⟩) q q] 26)).cell? ((⟨w.heap.size + 1, 0, none⟩ : Addr).add j) = some u := by
  have h := new_row (w := w.drew.alloc o) (xs := [.int .i64 a, .slice (some ⟨w.heap.size, 0, none⟩) q q]) (cs := #[.int .i64 a, .slice (some ⟨w.heap.size, 0, none⟩) q q]) (t := 26) rfl
  simpa using h
theorem one_row (a : Int) (D : Option Addr) (n c : Nat) : ∀ u ∈ [Value.int .i64 a, .slice D n c], u.oneCell' = true := itm_row a D n c
theorem it3_row {x : Int} {p u1 : Nat} (hp : x % 65536 = (p : Int)) (hu : x / 65536 % 2 = (u1 : Int)) : #[Value.int .u8 ((p : Int) / 256), .int .u8 ((p : Int) % 256), .int .u8 (u1 : Int)] = (bcells (it3 x).data).toArray := by
  simp only [it3, bcells, List.map_cons, List.map_nil, byt_val, hp, hu]
  rw [show (p : Int) / 256 % 256 = (p : Int) / 256 by omega, show (u1 : Int) % 256 = (u1 : Int) by omega]
theorem reports_out (A A' : Option Addr) (n c n' c' : Nat) (w : World) (h : 40 < n ∨ n' < n) :
    Calls Try.prog 5 #[.slice A n c, .slice A' n' c'] w fun e w' => e = .returned (.bool true) ∧ Below w.heap.size w w' := by
  rcases (show decide ((40 : Int) < n) = true ∨ (decide ((40 : Int) < n) = false ∧ decide (n' < n) = true) by simp only [decide_eq_true_eq, decide_eq_false_iff_not]; omega) with h1 | ⟨h1, h2⟩ <;>
  · clear h
    go_enter Try.func5, Try.ntmps5
    go_wp2_with (go_at_call 7; (with_reducible refine (alive_any _).mono ?_); rintro e' w1 ⟨rfl, hb1⟩)
    go_ret
    exact ⟨rfl, hb1⟩
theorem reports_in (A A' : Option Addr) (n c n' c' : Nat) (xs ys : List Int) (w : World) (hr : RNum w w.heap.size A n xs) (hr' : RNum w w.heap.size A' n' ys) (hn : n ≤ 40) (hn' : n ≤ n') :
    Calls Try.prog 5 #[.slice A n c, .slice A' n' c'] w fun e w' => e = .returned (.bool true) ∧ Below w.heap.size w w' := by
  have t1 : decide ((40 : Int) < (n : Int)) = false := by simp; omega
  have t2 : decide (n' < n) = false := by simp; omega
  obtain ⟨i5, hi, hz0, hz1, hz2⟩ := info_parts Try.info5
  have Ai := hid hi; have Az0 := hid hz0; have Az1 := hid hz1; have Az2 := hid hz2
  clear hi hz0 hz1 hz2
  obtain ⟨i6, hi, hz0, hz1, hz2⟩ := info_parts Try.info26
  have Bi := hid hi; have Bz0 := hid hz0; have Bz1 := hid hz1; have Bz2 := hid hz2
  clear hi hz0 hz1 hz2
  obtain ⟨i7, hi, hz0, hz1, hz2⟩ := info_parts Try.info48
  have Ci := hid hi; have Cz0 := hid hz0; have Cz1 := hid hz1; have Cz2 := hid hz2
  clear hi hz0 hz1 hz2
  have HR := hid hr
  have HR' := hid hr'
  have Hl := hid hr.1
  have Hl' := hid hr'.1
  clear hr hr'
  go_enter Try.func5, Try.ntmps5
  go_wp2_with (go_at_call 7; (with_reducible refine (alive_any _).mono ?_); rintro e' w1 ⟨rfl, hb1⟩)
  have hs1 := hb1.size
  go_loopw [6, 7, 8] (fun v u i wr => ∃ (k cnt : Nat) (cs : List Value), k ≤ n ∧ i = .int .i64 k ∧ Hid ((rl xs ys k).length = cnt) ∧ cnt ≤ 2 * k ∧ wr.ownsRow w1.heap.size 26 2 v cnt cs ∧ Hid (OItm wr w1.heap.size cs (rl xs ys k)) ∧ wr.ownsRow w1.heap.size 48 2 u k (pcells (wl xs k)) ∧ Below w1.heap.size w1 wr) (fun _ _ i _ => n - (intOf i).toNat)
  case atStart => exact ⟨0, 0, [], Nat.zero_le _, rfl, rfl, Nat.zero_le _, World.ownsRow_nil _ _ _ _, OItm.nil _ _, World.ownsRow_nil _ _ _ _, Below.refl _ _⟩
  case round =>
    obtain ⟨k, cnt, cs, hk, rfl, Hcnt, hcnt, hown, HOI, hwant, hbel⟩ := hrel
    have hs := hbel.size
    by_cases hlt : k < n
    · obtain ⟨x, hx⟩ : ∃ x, xs[k]? = some x := ⟨xs[k]'(by rw [Hl.out]; omega), List.getElem?_eq_getElem _⟩
      obtain ⟨y, hy⟩ : ∃ y, ys[k]? = some y := ⟨ys[k]'(by rw [Hl'.out]; omega), List.getElem?_eq_getElem _⟩
      obtain ⟨b, off, rfl, hb, hc⟩ := (HR.out.below (hb1.trans (hbel.mono hs1))).2.2 (by omega)
      obtain ⟨b', off', rfl, hb', hc'⟩ := (HR'.out.below (hb1.trans (hbel.mono hs1))).2.2 (by omega)
      have c0 := hc k x hx
      have c1 := hc' k y hy
      have ek : (k : Int) < (n' : Int) := by omega
      obtain ⟨p, hp⟩ : ∃ p : Nat, x % 65536 = (p : Int) := ⟨(x % 65536).toNat, by omega⟩
      obtain ⟨u1, hu⟩ : ∃ u1 : Nat, x / 65536 % 2 = (u1 : Int) := ⟨(x / 65536 % 2).toNat, by omega⟩
      have hpl : p < 65536 := by omega
      have hul : u1 < 2 := by omega
      have Hx := hid hx
      have Hy := hid hy
      have Hp := hid hp
      have Hu := hid hu
      have mA : bits .and .i64 x 65535 = (p : Int) := by rw [i64_mask_any 16 (by decide) 65535 (by decide) x]; exact Hp.out
      have mB : bits .and .i64 (x / 65536) 1 = (u1 : Int) := by rw [i64_mask_any 1 (by decide) 1 (by decide) (x / 65536)]; exact Hu.out
      have mC : bits .and .i64 (p : Int) 255 = (p : Int) % 256 := i64_mask_any 8 (by decide) 255 (by decide) (p : Int)
      clear hc hc' hx hy hp hu
      have hw0 : wl xs (k + 1) = wl xs k ++ [((p : Int), (u1 : Int))] := by rw [wl_succ Hx.out, lkOf, Hp.out, Hu.out]
      have HW := hid hw0
      have R3 := hid (it3_row Hp.out Hu.out)
      clear hw0
      by_cases hodd : y % 2 = 1
      · have hrl : rl xs ys (k + 1) = rl xs ys k ++ [it3 x] ++ [itk y] := by rw [rl_succ Hx.out Hy.out, rp, if_pos hodd]; simp
        have mD : bits .and .i64 y 1 = 1 := by rw [i64_mask_any 1 (by decide) 1 (by decide) y]; exact hodd
        have HRL := hid hrl
        clear hrl hodd
        go_wp2_with (first
          | (at_builtin; refine wpList_append_own _ rfl (.tmp 48) (.tmp 59) 22 rfl w1.heap.size 26 i6 (.agg #[.int .i64 0, .slice none 0 0]) 2 32 Try.underlying22 Bi.out Bz0.out Bz1.out Bz2.out rfl (by decide) _ _ _ rfl ((hown.alloc _).alloc _) ⟨wr.heap.size + 1, 0, none⟩ 1 1 [.int .i64 1, .slice (some ⟨wr.heap.size, 0, none⟩) 3 3] rfl rfl (by have := new_row (w := wr.alloc (.cells #[.int .u8 ((p : Int) / 256), .int .u8 ((p : Int) % 256), .int .u8 (u1 : Int)] 5)) (xs := [.int .i64 1, .slice (some ⟨wr.heap.size, 0, none⟩) 3 3]) (t := 26) rfl; simpa using this) (one_row _ _ _ _) (by unfold maxLen; clear mA mB mC mD; omega) (by clear mA mB mC mD; omega) (by clear mA mB mC mD; simp; omega) ?_; intro v4 w4 hown4 hg4 _; have hpu := push_item (m := 3) (e := it3 x) hown HOI.out Hcnt.out hs rfl (by unfold maxLen; decide) R3.out hg4; have HI4 := hid hpu.1; have hb4 := hpu.2; have hw4 := ((hwant.alloc _).alloc _).kept hg4 (own_apart hwant hown (by decide)); have c14 := (hb4.cell (p := ⟨b', off' + k, none⟩) (by show b' < _; clear mA mB mC mD; omega)).trans c1; have hs4 : w1.heap.size ≤ w4.heap.size := Nat.le_trans hs hb4.size; clear hpu hg4)
          | (at_builtin; refine wpList_append_own _ rfl (.tmp 61) (.tmp 65) 36 rfl w1.heap.size 48 i7 (.agg #[.int .i64 0, .int .i64 0]) 2 16 Try.underlying36 Ci.out Cz0.out Cz1.out Cz2.out rfl (by decide) _ _ _ rfl (hw4.alloc _) ⟨w4.heap.size, 0, none⟩ 1 1 (pcells [((p : Int), (u1 : Int))]) rfl rfl (new_row (pair_row _ _)) (pcells_one _) (by unfold maxLen; clear mA mB mC mD; omega) (by clear mA mB mC mD; omega) (by clear mA mB mC mD; simp; omega) ?_; intro v5 w5 hown5 hg5 _; have hl5 := (hown4.alloc _).kept hg5 (own_apart hown4 hw4 (by decide)); have HI5 := hid ((HI4.out.below ((Below.refl _ _).alloc (Nat.le_refl _) (.cells #[.int .i64 (p : Int), .int .i64 (u1 : Int)] 48))).kept (hw4.alloc _) (by decide) hg5); have hb5 : Below w1.heap.size w4 w5 := Below.grown ((Below.refl _ _).alloc hs4 _) hg5 (by clear mA mB mC mD; simp; omega) (fun q hq => (hw4.lt q hq).1); have c15 := (hb5.cell (p := ⟨b', off' + k, none⟩) (by show b' < _; clear mA mB mC mD; omega)).trans c14; have hs5 := hb5.size; clear hg5))
        rw [← pcells_app, ← HW.out] at hown5
        obtain ⟨a, ha⟩ : ∃ a : Nat, y % 128 = (a : Int) := ⟨(y % 128).toNat, by clear mA mB mC mD; omega⟩
        obtain ⟨q, hq⟩ : ∃ q : Nat, y % 8 = (q : Int) := ⟨(y % 8).toNat, by clear mA mB mC mD; omega⟩
        have hal : a < 128 := by clear mA mB mC mD; omega
        have hql : q < 8 := by clear mA mB mC mD; omega
        have Ha := hid ha
        have Hq := hid hq
        have mE : bits .and .i64 y 127 = (a : Int) := by rw [i64_mask_any 7 (by decide) 127 (by decide) y]; exact Ha.out
        have mF : bits .and .i64 y 7 = (q : Int) := by rw [i64_mask_any 3 (by decide) 7 (by decide) y]; exact Hq.out
        have e1 : IntKind.i64.wrap (2 + (a : Int)) = 2 + (a : Int) := IntWalk.i64_in _ (by clear mA mB mC mD mE mF; omega)
        have hmk := fun W : World => mk_bytes q (by clear mA mB mC mD mE mF; omega) W
        have hik : itk y = ⟨2 + (a : Int), List.replicate q 0⟩ := by rw [itk, Ha.out, Hq.out]; simp
        have HIK := hid hik
        clear ha hq mA mB mC mD c0 c1 c14 hik
        have hl5' : w5.drew.ownsRow w1.heap.size 26 2 v4 (cnt + 1) _ := hl5
        have eq0 : (0 : Int) ≤ (q : Int) := by omega
        go_region_held3 (fun w' => w'.cell? ⟨b', off' + k, none⟩ = some (.int .i64 y))
          (first
            | go_keep
            | exact hk6)
          (first
            | ((refine step_append_keeps (by rfl) (.tmp 73) (.tmp 87) 22 (by rfl) w1.heap.size 26 i6 (.agg #[.int .i64 0, .slice none 0 0]) 2 32 Try.underlying22 Bi.out Bz0.out Bz1.out Bz2.out rfl (by decide) v4 (cnt + 1) _ (by rfl) ((hl5'.alloc _).alloc _) ⟨w5.heap.size + 1, 0, none⟩ 1 1 [.int .i64 (2 + (a : Int)), .slice (some ⟨w5.heap.size, 0, none⟩) q q] (by rfl) (by rfl) (news_two w5 _ _ _) (one_row _ _ _ _) (by decide) (by unfold maxLen; clear mE mF e1 hmk; omega) (by clear mE mF e1 hmk; omega) (by clear mE mF e1 hmk; simp; omega) ?_; intro g6 c6 w6 hown6 hg6 _; have hpu := push_item (wr := w5.drew) (m := q) (e := ⟨2 + (a : Int), List.replicate q 0⟩) (bts := zrow q) hl5' HI5.out (by rw [List.length_append, Hcnt.out]; rfl) (Nat.le_trans hs4 hs5) (by simp) (by unfold maxLen; clear mE mF e1 hmk; omega) rfl hg6; have hw6 := ((World.ownsRow.alloc (w := w5.drew) hown5 _).alloc _).kept hg6 (own_apart hown5 hl5 (by decide)); have hb6 := hpu.2; have hk6 : w6.cell? ⟨b', off' + k, none⟩ = some (.int .i64 y) := (hb6.cell (p := ⟨b', off' + k, none⟩) (by show b' < _; clear mE mF e1 hmk; omega)).trans c15)))
        clear mE mF e1 hmk
        have HI6 := hid hpu.1
        have hb56 : Below w1.heap.size w5 w6 := ⟨hb6.os, hb6.tape, hb6.output, hb6.size, hb6.block⟩
        clear hpu hb6
        go_wp2_with fail
        go_roundw
        case rel =>
          refine ⟨k + 1, cnt + 1 + 1, _, by omega, by go_num, ?_, by omega, hown6, ?_, hw6, hbel.trans (hb4.trans (hb5.trans hb56))⟩
          · show _ = _
            rw [HRL.out, List.length_append, List.length_append, Hcnt.out]; rfl
          · rw [HRL.out, HIK.out]; exact HI6
        case measure => simp [intOf]; omega
      · have hy0 : y % 2 = 0 := by omega
        have hrl : rl xs ys (k + 1) = rl xs ys k ++ [it3 x] := by rw [rl_succ Hx.out Hy.out, rp, if_neg hodd]
        have mD : bits .and .i64 y 1 = 0 := by rw [i64_mask_any 1 (by decide) 1 (by decide) y]; exact hy0
        have HRL := hid hrl
        clear hrl hodd hy0
        go_wp2_with (first
          | (at_builtin; refine wpList_append_own _ rfl (.tmp 48) (.tmp 59) 22 rfl w1.heap.size 26 i6 (.agg #[.int .i64 0, .slice none 0 0]) 2 32 Try.underlying22 Bi.out Bz0.out Bz1.out Bz2.out rfl (by decide) _ _ _ rfl ((hown.alloc _).alloc _) ⟨wr.heap.size + 1, 0, none⟩ 1 1 [.int .i64 1, .slice (some ⟨wr.heap.size, 0, none⟩) 3 3] rfl rfl (by have := new_row (w := wr.alloc (.cells #[.int .u8 ((p : Int) / 256), .int .u8 ((p : Int) % 256), .int .u8 (u1 : Int)] 5)) (xs := [.int .i64 1, .slice (some ⟨wr.heap.size, 0, none⟩) 3 3]) (t := 26) rfl; simpa using this) (one_row _ _ _ _) (by unfold maxLen; clear mA mB mC mD; omega) (by clear mA mB mC mD; omega) (by clear mA mB mC mD; simp; omega) ?_; intro v4 w4 hown4 hg4 _; have hpu := push_item (m := 3) (e := it3 x) hown HOI.out Hcnt.out hs rfl (by unfold maxLen; decide) R3.out hg4; have HI4 := hid hpu.1; have hb4 := hpu.2; have hw4 := ((hwant.alloc _).alloc _).kept hg4 (own_apart hwant hown (by decide)); have c14 := (hb4.cell (p := ⟨b', off' + k, none⟩) (by show b' < _; clear mA mB mC mD; omega)).trans c1; have hs4 : w1.heap.size ≤ w4.heap.size := Nat.le_trans hs hb4.size; clear hpu hg4)
          | (at_builtin; refine wpList_append_own _ rfl (.tmp 61) (.tmp 65) 36 rfl w1.heap.size 48 i7 (.agg #[.int .i64 0, .int .i64 0]) 2 16 Try.underlying36 Ci.out Cz0.out Cz1.out Cz2.out rfl (by decide) _ _ _ rfl (hw4.alloc _) ⟨w4.heap.size, 0, none⟩ 1 1 (pcells [((p : Int), (u1 : Int))]) rfl rfl (new_row (pair_row _ _)) (pcells_one _) (by unfold maxLen; clear mA mB mC mD; omega) (by clear mA mB mC mD; omega) (by clear mA mB mC mD; simp; omega) ?_; intro v5 w5 hown5 hg5 _; have hl5 := (hown4.alloc _).kept hg5 (own_apart hown4 hw4 (by decide)); have HI5 := hid ((HI4.out.below ((Below.refl _ _).alloc (Nat.le_refl _) (.cells #[.int .i64 (p : Int), .int .i64 (u1 : Int)] 48))).kept (hw4.alloc _) (by decide) hg5); have hb5 : Below w1.heap.size w4 w5 := Below.grown ((Below.refl _ _).alloc hs4 _) hg5 (by clear mA mB mC mD; simp; omega) (fun q hq => (hw4.lt q hq).1); have c15 := (hb5.cell (p := ⟨b', off' + k, none⟩) (by show b' < _; clear mA mB mC mD; omega)).trans c14; have hs5 := hb5.size; clear hg5))
        rw [← pcells_app, ← HW.out] at hown5
        clear mA mB mC mD
        go_roundw
        case rel =>
          refine ⟨k + 1, cnt + 1, _, by omega, by go_num, ?_, by omega, hl5, ?_, hown5, hbel.trans (hb4.trans hb5)⟩
          · show _ = _
            rw [HRL.out, List.length_append, Hcnt.out]; rfl
          · rw [HRL.out]; exact HI5
        case measure => simp [intOf]; omega
    · obtain rfl : k = n := by omega
      have hown' := hown
      rw [← Hcnt.out] at hown'
      obtain ⟨Al, cl, rfl, hrl, _⟩ := own_itm hown' HOI.out
      rw [Hcnt.out] at hrl
      have hwl := wl_len xs k
      have hwant' : wr.ownsRow w1.heap.size 48 2 u7 (wl xs k).length (pcells (wl xs k)) := by rw [hwl]; exact hwant
      obtain ⟨Aw, cw, hwv, hrw⟩ := own_pairs hwant'
      rw [hwl] at hwv hrw
      subst hwv
      obtain ⟨ok1, ok2, ok3⟩ := rl_all xs ys k
      obtain ⟨M, hM⟩ : ∃ M, (putI (rl xs ys k)).length = M := ⟨_, rfl⟩
      have hMl := putI_le ok2
      rw [hM, Hcnt.out] at hMl
      have HP := hid (putI_yes ok1 ok2 hM (put_any Al cnt cl _ wr hrl (by omega)))
      have HRW := hid hrw
      have Hrep := hid (rep_rl xs ys k)
      have Hwl := hid hwl
      have b0 := hb1.trans (hbel.mono hs1)
      rw [Hcnt.out]
      clear hown hown' hrl hwant hwant' hrw ok1 ok2 ok3 hwl hM HOI
      go_wp2_with (first
        | (go_at_call 8; (with_reducible refine HP.out.mono ?_); rintro e' w3 ⟨A3, c3, rfl, hr3, hc3, hb3⟩; have HLk := hid (links_yes Hrep.out Hwl.out (links_any A3 M c3 _ w3 hr3 hc3 (by omega))); clear hr3)
        | (go_at_call 12; (with_reducible refine HLk.out.mono ?_); rintro e' w4 ⟨A4, c4, rfl, hr4, hb4⟩; have HS := hid (sameP_yes (same_any A4 Aw _ _ c4 cw _ _ w4 hr4 (HRW.out.on (bt hb3 hb4)) (by omega))); clear hr4)
        | (go_at_call 14; (with_reducible refine (num_any _ _).mono ?_); rintro e' w8 ⟨rfl, rfl⟩)
        | (go_at_call 16; (with_reducible refine HS.out.mono ?_); rintro e' w5 ⟨rfl, hb5⟩))
      go_ret
      have hsr := b0.size
      exact ⟨rfl, b0.trans ((bt (bt hb3 hb4) hb5).mono hsr)⟩
theorem reports_any (A A' : Option Addr) (n c n' c' : Nat) (xs ys : List Int) (w : World) (hr : RNum w w.heap.size A n xs) (hr' : RNum w w.heap.size A' n' ys) :
    Calls Try.prog 5 #[.slice A n c, .slice A' n' c'] w fun e w' => e = .returned (.bool true) ∧ Below w.heap.size w w' := by
  by_cases h : 40 < n ∨ n' < n
  · exact reports_out A A' n c n' c' w h
  · exact reports_in A A' n c n' c' xs ys w hr hr' (by omega) (by omega)
end Go.Proofs.Ytddddfcalknmlaa
