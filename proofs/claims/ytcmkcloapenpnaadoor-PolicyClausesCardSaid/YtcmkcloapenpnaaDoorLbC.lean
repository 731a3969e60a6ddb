/- Cut out of LaB LaN LaO LaP LaQ. -/
import Derived.Test.YtcmkcloapenpnaaDoorLbB
import Derived.Test.YtcmkcloapenpnaaDoorPlJ
import Derived.Test.YtcmkcloapenpnaaDoorPnI
import Derived.Test.YtcmkcloapenpnaaDoorSbA
import Derived.Test.YtcmkcloapenpnaaDoorPlP
import Derived.Lib.Join
import Derived.OwnWalk
import Derived.Deep.DeepCutAuto
import Derived.Deep.RegionLaw
import Derived.Deep.RegionHeld3
namespace Go.Proofs.YtcmkcloapenpnaaDoor
open Go.RowKit
set_option maxHeartbeats 12800000
set_option maxRecDepth 100000
def numP (name : List UInt8) (n : Int) : List (List UInt8) := if n = 0 then [] else [name, decL n.toNat]
def numsP (name : List UInt8) (L : List Int) : List (List UInt8) := if L = [] then [] else name :: L.map fun v => decL v.toNat
def prefP (name : List UInt8) (a : Nat) (n : Int) : List (List UInt8) := if n ≤ 0 then [] else [name, showS a n]
def headP (r : Rul) : List (List UInt8) := [ruleW, r.name, decL r.pri.toNat, wordL 11, decL r.x.frm.toNat, wordL 12, decL r.x.too.toNat]
def strictP (b : Bool) : List (List UInt8) := if b then [wordL 10] else []
def partsP (r : Rul) : List (List UInt8) :=
  headP r ++ numsP (wordL 0) r.x.via ++ numsP (wordL 1) r.x.nds ++ numsP (wordL 2) r.x.lks ++ numsP (wordL 3) r.x.cls ++ numP (wordL 4) r.x.bnd ++ prefP (wordL 5) r.m.sa r.m.sl ++ prefP (wordL 6) r.m.da r.m.dl ++ numP (wordL 7) r.m.pr ++ numP (wordL 8) r.m.sp ++ numP (wordL 9) r.m.dp ++ strictP r.strict
def jt (L : List (List UInt8)) : List UInt8 := Lib.joinTail [32] L
theorem jt_app (a b : List (List UInt8)) : jt (a ++ b) = jt a ++ jt b := by unfold jt Lib.joinTail; rw [List.map_append, List.flatten_append]
theorem jt_cons (a : List UInt8) (b : List (List UInt8)) : jt (a :: b) = ([32] ++ a) ++ jt b := by unfold jt Lib.joinTail; rw [List.map_cons, List.flatten_cons]
theorem jt_nil : jt [] = [] := rfl
theorem jt_num (name : List UInt8) {n : Int} (h : 0 ≤ n) : jt (numP name n) = showN name n := by
  unfold numP showN
  by_cases h0 : n = 0
  · rw [if_pos h0, if_pos (by omega), jt_nil]
  · rw [if_neg h0, if_neg (by omega), jt_cons, jt_cons, jt_nil, List.append_nil]
    simp only [List.append_assoc]
theorem jt_digs (L : List Int) : jt (L.map fun v => decL v.toNat) = L.flatMap dig1 := by
  induction L with
  | nil => rfl
  | cons v r ih => rw [List.map_cons, jt_cons, ih, List.flatMap_cons]; rfl
theorem jt_nums (name : List UInt8) (L : List Int) : jt (numsP name L) = showLs name L := by
  unfold numsP showLs
  by_cases h0 : L = []
  · rw [if_pos h0, if_pos h0, jt_nil]
  · rw [if_neg h0, if_neg h0, jt_cons, jt_digs]
theorem jt_pref (name : List UInt8) (a : Nat) (n : Int) : jt (prefP name a n) = prefR name a n := by
  unfold prefP prefR
  by_cases h0 : n ≤ 0
  · rw [if_pos h0, if_neg (by omega), jt_nil]
  · rw [if_neg h0, if_pos (by omega), jt_cons, jt_cons, jt_nil, List.append_nil]
    simp only [List.append_assoc]
theorem jt_strict (b : Bool) : jt (strictP b) = if b then [32] ++ wordL 10 else [] := by
  cases b with
  | false => rfl
  | true => rfl
theorem join_parts {r : Rul} (h : NumOk r) : Lib.join (partsP r) [32] ++ [59] ++ [10] = showR r := by
  have e : partsP r = ruleW :: ([r.name, decL r.pri.toNat, wordL 11, decL r.x.frm.toNat, wordL 12, decL r.x.too.toNat] ++ numsP (wordL 0) r.x.via ++ numsP (wordL 1) r.x.nds ++ numsP (wordL 2) r.x.lks ++ numsP (wordL 3) r.x.cls ++ numP (wordL 4) r.x.bnd ++ prefP (wordL 5) r.m.sa r.m.sl ++ prefP (wordL 6) r.m.da r.m.dl ++ numP (wordL 7) r.m.pr ++ numP (wordL 8) r.m.sp ++ numP (wordL 9) r.m.dp ++ strictP r.strict) := by
    unfold partsP headP
    simp only [List.cons_append, List.nil_append, List.append_assoc]
  rw [e, Lib.join_cons]
  show ruleW ++ jt _ ++ [59] ++ [10] = _
  rw [jt_app, jt_app, jt_app, jt_app, jt_app, jt_app, jt_app, jt_app, jt_app, jt_app, jt_app, jt_nums, jt_nums, jt_nums, jt_nums, jt_num _ h.bnd.1, jt_pref, jt_pref, jt_num _ h.pr.1, jt_num _ h.sp.1, jt_num _ h.dp.1, jt_strict]
  rw [jt_cons, jt_cons, jt_cons, jt_cons, jt_cons, jt_cons, jt_nil]
  unfold showR headR listR portR
  simp only [ruleW, wordL, List.cons_append, List.nil_append, List.append_assoc, List.append_nil]
/-- How many words, and how long. -/
theorem numsP_len (name : List UInt8) (L : List Int) : (numsP name L).length ≤ L.length + 1 := by
  unfold numsP
  split
  · simp
  · simp
theorem numP_len (name : List UInt8) (n : Int) : (numP name n).length ≤ 2 := by unfold numP; split <;> simp
theorem prefP_len (name : List UInt8) (a : Nat) (n : Int) : (prefP name a n).length ≤ 2 := by unfold prefP; split <;> simp
theorem strictP_len (b : Bool) : (strictP b).length ≤ 1 := by cases b <;> simp [strictP]
/-- A world in which a rule's words are listed: the library as it was laid, and nothing below b turned. -/
structure ShW (b : Nat) (w0 w : World) : Prop where
  lib : Ld w0
  low : w0.heap.size ≤ b
  bel : Below w0.heap.size w0 w
  hb : b ≤ w.heap.size
theorem ShW.ld {b : Nat} {w0 w : World} (h : ShW b w0 w) : Ld w := h.lib.on h.bel
theorem ShW.on {b : Nat} {w0 w w' : World} (h : ShW b w0 w) (hb : Below b w w') : ShW b w0 w' := ⟨h.lib, h.low, h.bel.trans (hb.mono h.low), Nat.le_trans h.hb hb.size⟩
def AddAns (b : Nat) (H : List (List UInt8)) (w : World) (e : Ending) (w' : World) : Prop :=
  ∃ A c, e = .returned (.slice A H.length c) ∧ w'.ownsRow b 9 1 (.slice A H.length c) H.length (scells H) ∧ Below b w w'
theorem below_addb {b e s n : Nat} {w w1 w6 : World} {v : Value} {xs : List Value} {o : Obj} (hbel : Below b w w1) (hown : w1.ownsRow b e s v n xs) (hb : b ≤ w.heap.size) (hg : (w1.alloc o).grownBy w6 v.ownBlock) : Below b w w6 :=
  Below.grown (hbel.alloc (Nat.le_trans hb hbel.size) o) hg (by have := hbel.size; simp; omega) (fun q hq => (hown.lt q hq).1)
theorem add_end {b n : Nat} {w w1 w6 : World} {v : Value} {H N : List (List UInt8)} {A : Option Addr} {c : Nat} {o : Obj} (hbel : Below b w w1) (hown : w1.ownsRow b 9 1 v H.length (scells H)) (hb : b ≤ w.heap.size) (hn : N.length = n) (hown6 : w6.ownsRow b 9 1 (.slice A (H.length + n) c) (H.length + n) (scells H ++ scells N)) (hg : (w1.alloc o).grownBy w6 v.ownBlock) : AddAns b (H ++ N) w (.returned (.slice A (H.length + n) c)) w6 := by
  subst hn
  refine ⟨A, c, by rw [List.length_append], ?_, below_addb hbel hown hb hg⟩
  rw [List.length_append, scells_app]; exact hown6
theorem addN_any (b : Nat) (w0 w : World) (A : Option Addr) (c : Nat) (H : List (List UInt8)) (nm : List UInt8) (x : Int) (hw : ShW b w0 w) (hown : w.ownsRow b 9 1 (.slice A H.length c) H.length (scells H)) (hH : H.length ≤ 1000000) (hx : In31 x) :
    Calls Tryd.prog 63 #[.slice A H.length c, .string (txt nm), .int .i64 x] w (AddAns b (H ++ numP nm x) w) := by
  obtain ⟨i5, hi5, hz0, hz1, hz2⟩ := info_parts (show (Tryd.prog.info? 9).map (fun i => (i.zero, i.size, i.bytes)) = some (some (.string ⟨#[]⟩), 1, 16) by kernel_rfl)
  have Ai := hid hi5; have Az0 := hid hz0; have Az1 := hid hz1; have Az2 := hid hz2
  obtain ⟨k, rfl⟩ := Int.eq_ofNat_of_zero_le hx.1
  have hk := hx.2
  have HO := hid hown
  have HW := hid hw
  by_cases h0 : k = 0
  · subst h0
    have t0 : (((0 : Nat) : Int) == 0) = true := by decide
    have HQ := hid (show H ++ numP nm ((0 : Nat) : Int) = H by unfold numP; rw [if_pos (by rfl), List.append_nil])
    clear hi5 hz0 hz1 hz2 hown hw hx hk
    go_enter Tryd.func63, Tryd.ntmps63
    go_wp2_with fail
    go_ret
    rw [HQ.out]
    exact ⟨A, c, rfl, HO.out, Below.refl _ _⟩
  · have t0 : ((k : Int) == 0) = false := by simpa using h0
    have t1 : (k == 0) = false := by simpa using h0
    have HQ := hid (show numP nm (k : Int) = [nm, decL k] by unfold numP; rw [if_neg (by omega), Int.toNat_natCast])
    have HI := hid (itoa_any k w hw.ld (by omega))
    obtain ⟨D, hD⟩ : ∃ D, decL k = D := ⟨_, rfl⟩
    rw [hD] at HQ HI
    have hsw := hw.hb
    clear hi5 hz0 hz1 hz2 hown hw hx hk h0 hD
    go_enter Tryd.func63, Tryd.ntmps63
    go_wp2_with (first
      | (go_at_call 44; (with_reducible refine HI.out.mono ?_); rintro e' w1 ⟨rfl, hb1⟩; have HB := hid hb1; have HO1 := hid (own_below HO.out hb1); have hs1 := hb1.size; clear hb1)
      | (at_builtin; refine wpList_append_own _ rfl _ _ 38 rfl b 9 i5 (.string ⟨#[]⟩) 1 16 Tryd.underlying38 Ai.out Az0.out Az1.out Az2.out rfl (by decide) _ _ _ rfl (HO1.out.alloc _) ⟨w1.heap.size, 0, none⟩ 2 2 (scells [nm, D]) rfl rfl (new_row (by rfl)) (scells_one _) (by unfold maxLen; omega) (by omega) (by simp; omega) ?_; intro v6 w6 hown6 hg6 _; obtain ⟨A6, c6, rfl⟩ := own_form hown6; have HNx := hid (add_end (HB.out.mono HW.out.hb) HO1.out HW.out.hb (show [nm, D].length = 2 from rfl) hown6 hg6); clear hown6 hg6))
    go_ret
    rw [HQ.out]
    exact HNx.out
theorem addP_any (b : Nat) (w0 w : World) (A : Option Addr) (c : Nat) (H : List (List UInt8)) (nm : List UInt8) (a : Nat) (x : Int) (hw : ShW b w0 w) (hown : w.ownsRow b 9 1 (.slice A H.length c) H.length (scells H)) (hH : H.length ≤ 1000000) (ha : a < 4294967296) :
    Calls Tryd.prog 64 #[.slice A H.length c, .string (txt nm), .agg #[.int .u32 (a : Int), .int .i64 x]] w (AddAns b (H ++ prefP nm a x) w) := by
  obtain ⟨i5, hi5, hz0, hz1, hz2⟩ := info_parts (show (Tryd.prog.info? 9).map (fun i => (i.zero, i.size, i.bytes)) = some (some (.string ⟨#[]⟩), 1, 16) by kernel_rfl)
  have Ai := hid hi5; have Az0 := hid hz0; have Az1 := hid hz1; have Az2 := hid hz2
  have HO := hid hown
  have HW := hid hw
  have hba : Below w.heap.size w (w.alloc (.cells #[.int .u32 (a : Int), .int .i64 x] 24)) := (Below.refl _ _).alloc (Nat.le_refl _) _
  have HBa := hid hba
  by_cases h0 : x ≤ 0
  · have t0 : decide (x ≤ 0) = true := decide_eq_true h0
    have HQ := hid (show H ++ prefP nm a x = H by unfold prefP; rw [if_pos h0, List.append_nil])
    clear hi5 hz0 hz1 hz2 hown hw hba h0
    go_enter Tryd.func64, Tryd.ntmps64
    go_wp2_with fail
    go_ret
    rw [HQ.out]
    exact ⟨A, c, rfl, own_below HO.out HBa.out, HBa.out.mono HW.out.hb⟩
  · have t0 : decide (x ≤ 0) = false := decide_eq_false h0
    have HQ := hid (show prefP nm a x = [nm, showS a x] by unfold prefP; rw [if_neg h0])
    have HI := hid (show_land a x _ (hw.ld.on hba) ha)
    obtain ⟨D, hD⟩ : ∃ D, showS a x = D := ⟨_, rfl⟩
    rw [hD] at HQ HI
    have hsw := hw.hb
    clear hi5 hz0 hz1 hz2 hown hw h0 hD hba
    go_enter Tryd.func64, Tryd.ntmps64
    go_wp2_with (first
      | (go_at_call 12; (with_reducible refine HI.out.mono ?_); rintro e' w1 ⟨rfl, hb1⟩; have HB := hid (HBa.out.trans (hb1.mono HBa.out.size)); have HO1 := hid (own_below HO.out HB.out); have hs1 := HB.out.size; clear hb1)
      | (at_builtin; refine wpList_append_own _ rfl _ _ 38 rfl b 9 i5 (.string ⟨#[]⟩) 1 16 Tryd.underlying38 Ai.out Az0.out Az1.out Az2.out rfl (by decide) _ _ _ rfl (HO1.out.alloc _) ⟨w1.heap.size, 0, none⟩ 2 2 (scells [nm, D]) rfl rfl (new_row (by rfl)) (scells_one _) (by unfold maxLen; omega) (by omega) (by simp; omega) ?_; intro v6 w6 hown6 hg6 _; obtain ⟨A6, c6, rfl⟩ := own_form hown6; have HNx := hid (add_end (HB.out.mono HW.out.hb) HO1.out HW.out.hb (show [nm, D].length = 2 from rfl) hown6 hg6); clear hown6 hg6))
    go_ret
    rw [HQ.out]
    exact HNx.out
theorem addL_any (b : Nat) (w0 w : World) (A : Option Addr) (c : Nat) (H : List (List UInt8)) (nm : List UInt8) (A2 : Option Addr) (n2 c2 : Nat) (L : List Int) (hw : ShW b w0 w) (hown : w.ownsRow b 9 1 (.slice A H.length c) H.length (scells H)) (hH : H.length ≤ 1000000) (hr : RInt w0 w0.heap.size A2 n2 L) (hn : n2 ≤ 100000) (hx : ∀ v ∈ L, In31 v) :
    Calls Tryd.prog 62 #[.slice A H.length c, .string (txt nm), .slice A2 n2 c2] w (AddAns b (H ++ numsP nm L) w) := by
  obtain ⟨i5, hi5, hz0, hz1, hz2⟩ := info_parts (show (Tryd.prog.info? 9).map (fun i => (i.zero, i.size, i.bytes)) = some (some (.string ⟨#[]⟩), 1, 16) by kernel_rfl)
  have Ai := hid hi5; have Az0 := hid hz0; have Az1 := hid hz1; have Az2 := hid hz2
  have HO := hid hown
  have HW := hid hw
  have HR := hid hr
  have HX := hid hx
  have Hlen := hid hr.1
  by_cases h0 : n2 = 0
  · subst h0
    have t0 : (((0 : Nat) : Int) == 0) = true := by decide
    have HQ := hid (show H ++ numsP nm L = H by unfold numsP; rw [if_pos (List.length_eq_zero_iff.1 Hlen.out), List.append_nil])
    clear hi5 hz0 hz1 hz2 hown hw hx hr
    go_enter Tryd.func62, Tryd.ntmps62
    go_wp2_with fail
    go_ret
    rw [HQ.out]
    exact ⟨A, c, rfl, HO.out, Below.refl _ _⟩
  · have t0 : ((n2 : Int) == 0) = false := by simpa using h0
    have t1 : (n2 == 0) = false := by simpa using h0
    have HQ := hid (show numsP nm L = [nm] ++ L.map fun v => decL v.toNat by unfold numsP; rw [if_neg (fun e => by have := Hlen.out; rw [e] at this; exact h0 this.symm)]; rfl)
    have hsw := hw.hb
    clear hi5 hz0 hz1 hz2 hown hw hx hr h0
    go_enter Tryd.func62, Tryd.ntmps62
    go_wp2_with (at_builtin; refine wpList_append_own _ rfl _ _ 38 rfl b 9 i5 (.string ⟨#[]⟩) 1 16 Tryd.underlying38 Ai.out Az0.out Az1.out Az2.out rfl (by decide) _ _ _ rfl (HO.out.alloc _) ⟨w.heap.size, 0, none⟩ 1 1 (scells [nm]) rfl rfl (new_row (by rfl)) (scells_one _) (by unfold maxLen; omega) (by omega) (by simp; omega) ?_; intro v6 w6 hown6 hg6 _; obtain ⟨A6, c6, rfl⟩ := own_form hown6; have HN0 := hid (add_end (Below.refl b w) HO.out HW.out.hb (show [nm].length = 1 from rfl) hown6 hg6); clear hown6 hg6)
    go_loopw [0, 19] (fun v i wr => ∃ (k : Nat) (A7 : Option Addr) (c7 q : Nat), k ≤ n2 ∧ i = .int .i64 k ∧ v = .slice A7 q c7 ∧ Hid (q = H.length + 1 + k) ∧ Hid (AddAns b (H ++ [nm] ++ (L.take k).map fun v => decL v.toNat) w (.returned v) wr)) (fun _ i _ => n2 - (intOf i).toNat)
    case atStart => exact ⟨0, A6, c6, H.length + 1, Nat.zero_le _, rfl, rfl, hid rfl, by rw [List.take_zero, List.map_nil, List.append_nil]; exact HN0⟩
    case round =>
      obtain ⟨k, A7, c7, q, hk, rfl, rfl, HQq, HSt⟩ := hrel
      have hlk : (H ++ [nm] ++ (L.take k).map fun v => decL v.toNat).length = q := by
        have := Hlen.out
        have := HQq.out
        simp only [List.length_append, List.length_map, List.length_take, List.length_singleton]
        omega
      obtain ⟨A8, c8, he, ho8, hb8⟩ := HSt.out
      rw [hlk] at he ho8
      injection he with he
      injection he with e1 _ e2
      subst e1
      subst e2
      by_cases hlt : k < n2
      · have HW8 := hid (HW.out.on hb8)
        have hr8 := HR.out.below HW8.out.bel
        obtain ⟨bb, off, rfl, _, hc⟩ := hr8.2 (by omega)
        obtain ⟨x, hxk⟩ : ∃ x, L[k]? = some x := ⟨L[k]'(by rw [Hlen.out]; exact hlt), List.getElem?_eq_getElem _⟩
        have hcx := hc k x hxk
        have h31 := HX.out x (List.mem_of_getElem? hxk)
        obtain ⟨j, rfl⟩ := Int.eq_ofNat_of_zero_le h31.1
        have HI := hid (itoa_any j wr HW8.out.ld (by have := h31.2; omega))
        have HL2 := hid (show (L.take (k + 1)).map (fun v => decL v.toNat) = (L.take k).map (fun v => decL v.toNat) ++ [decL j] by rw [List.take_add_one, hxk]; simp)
        obtain ⟨D, hD⟩ : ∃ D, decL j = D := ⟨_, rfl⟩
        rw [hD] at HI HL2
        have HO8 := hid ho8
        have HB8 := hid hb8
        have kl : (k : Int) < (n2 : Int) := by omega
        have tl : decide ((k : Int) < (n2 : Int)) = true := decide_eq_true kl
        have e0 : IntKind.i64.wrap ((k : Int) + 1) = (k : Int) + 1 := by rw [IntKind.wrap_i64]; omega
        have hsw8 := HW8.out.hb
        obtain ⟨M, hM⟩ : ∃ M, (H ++ [nm] ++ (L.take k).map fun v => decL v.toNat) = M := ⟨_, rfl⟩
        rw [hM] at HO8 hlk
        have HM := hid hM
        have HLk := hid hlk
        have hql : q ≤ 2000000 := by have := HQq.out; omega
        clear hr8 hc hxk h31 hD ho8 hb8 hM hlk
        go_wp2_with (first
          | (go_at_call 44; (with_reducible refine HI.out.mono ?_); rintro e' w1 ⟨rfl, hb1⟩; have HB := hid (HB8.out.trans (hb1.mono HW8.out.hb)); have HO1 := hid (own_below HO8.out hb1); have hs1 := hb1.size; clear hb1)
          | (at_builtin; refine wpList_append_own _ rfl _ _ 38 rfl b 9 i5 (.string ⟨#[]⟩) 1 16 Tryd.underlying38 Ai.out Az0.out Az1.out Az2.out rfl (by decide) _ _ _ rfl (HO1.out.alloc _) ⟨w1.heap.size, 0, none⟩ 1 1 (scells [D]) rfl rfl (new_row (by rfl)) (scells_one _) (by unfold maxLen; omega) (by omega) (by simp; omega) ?_; intro v9 w9 hown9 hg9 _; obtain ⟨A9, c9, rfl⟩ := own_form hown9; have HNx := hid (add_end (H := M) (N := [D]) HB.out (by rw [HLk.out]; exact HO1.out) HW.out.hb rfl (by rw [HLk.out]; exact hown9) hg9); clear hown9 hg9))
        go_roundw
        case rel => exact ⟨k + 1, A9, c9, q + 1, by omega, by go_num, rfl, hid (by have := HQq.out; omega), by rw [HL2.out, ← List.append_assoc, HM.out]; have := HNx.out; rw [HLk.out] at this; exact this⟩
        case measure => simp [intOf]; omega
      · obtain rfl : k = n2 := by omega
        have tl : decide ((k : Int) < (k : Int)) = false := decide_eq_false (by omega)
        go_wp2_with fail
        go_ret
        have := HSt.out
        rw [List.take_of_length_le (by rw [Hlen.out]; exact Nat.le_refl _)] at this
        rw [HQ.out, ← List.append_assoc]
        exact this
/-- A rule's want and match, each in a box of its own. -/
structure PBx (r : Rul) (y : WSl) (w : World) (B3 B4 : Nat) (w' : World) : Prop where
  rule : w'.heap[w.heap.size]? = some (.cells (rarr r y) 67 (0, 0))
  want : w'.heap[B3]? = some (.cells #[.int .i64 r.x.frm, .int .i64 r.x.too, .int .i64 r.x.bnd, .slice y.av y.nv y.cv, .slice y.an y.nn y.cn, .slice y.al y.nl y.cl, .slice y.ac y.nc y.cc] 65 (0, 0))
  mat : w'.heap[B4]? = some (.cells #[.int .u32 (r.m.sa : Int), .int .i64 r.m.sl, .int .u32 (r.m.da : Int), .int .i64 r.m.dl, .int .i64 r.m.pr, .int .i64 r.m.sp, .int .i64 r.m.dp] 26 (0, 0))
  bel : Below w.heap.size w w'
theorem two_new (w : World) (c1 c2 : Array Value) (t1 t2 : TypeId) : ((w.alloc (.cells c1 t1)).alloc (.cells c2 t2)).heap[w.heap.size]? = some (.cells c1 t1 (0, 0)) ∧ ((w.alloc (.cells c1 t1)).alloc (.cells c2 t2)).heap[w.heap.size + 1]? = some (.cells c2 t2 (0, 0)) ∧ Below w.heap.size w ((w.alloc (.cells c1 t1)).alloc (.cells c2 t2)) := by
  have b1 : Below w.heap.size w (w.alloc (.cells c1 t1)) := (Below.refl _ _).alloc (Nat.le_refl _) _
  have h2 := heap_alloc_new (w.alloc (.cells c1 t1)) (.cells c2 t2)
  have hs : (w.alloc (.cells c1 t1)).heap.size = w.heap.size + 1 := by simp
  rw [hs] at h2
  exact ⟨box_below (heap_alloc_new w _) ((Below.refl (w.alloc (.cells c1 t1)).heap.size _).alloc (Nat.le_refl _) _) (by omega), h2, b1.alloc (by omega) _⟩
theorem pbx_one {r : Rul} {y : WSl} {w w1 : World} (hb : Below w.heap.size w w1) (hx : RBox w.heap.size r y w1) (hs : w1.heap.size = w.heap.size + 1) : PBx r y w (w.heap.size + 1) (w.heap.size + 1 + 1) ((w1.alloc (.cells #[.int .i64 r.x.frm, .int .i64 r.x.too, .int .i64 r.x.bnd, .slice y.av y.nv y.cv, .slice y.an y.nn y.cn, .slice y.al y.nl y.cl, .slice y.ac y.nc y.cc] 65)).alloc (.cells #[.int .u32 (r.m.sa : Int), .int .i64 r.m.sl, .int .u32 (r.m.da : Int), .int .i64 r.m.dl, .int .i64 r.m.pr, .int .i64 r.m.sp, .int .i64 r.m.dp] 26)) := by
  obtain ⟨h1, h2, h3⟩ := two_new w1 #[.int .i64 r.x.frm, .int .i64 r.x.too, .int .i64 r.x.bnd, .slice y.av y.nv y.cv, .slice y.an y.nn y.cn, .slice y.al y.nl y.cl, .slice y.ac y.nc y.cc] #[.int .u32 (r.m.sa : Int), .int .i64 r.m.sl, .int .u32 (r.m.da : Int), .int .i64 r.m.dl, .int .i64 r.m.pr, .int .i64 r.m.sp, .int .i64 r.m.dp] 65 26
  rw [hs] at h1 h2
  exact ⟨box_below hx h3 (by omega), h1, h2, hb.trans (h3.mono hb.size)⟩
theorem pbx_two {r : Rul} {y : WSl} {w w1 : World} (hb : Below w.heap.size w w1) (hx : RBox w.heap.size r y w1) (hs : w1.heap.size = w.heap.size + 1) : PBx r y w (w.heap.size + 1 + 1) (w.heap.size + 1) ((w1.alloc (.cells #[.int .u32 (r.m.sa : Int), .int .i64 r.m.sl, .int .u32 (r.m.da : Int), .int .i64 r.m.dl, .int .i64 r.m.pr, .int .i64 r.m.sp, .int .i64 r.m.dp] 26)).alloc (.cells #[.int .i64 r.x.frm, .int .i64 r.x.too, .int .i64 r.x.bnd, .slice y.av y.nv y.cv, .slice y.an y.nn y.cn, .slice y.al y.nl y.cl, .slice y.ac y.nc y.cc] 65)) := by
  obtain ⟨h1, h2, h3⟩ := two_new w1 #[.int .u32 (r.m.sa : Int), .int .i64 r.m.sl, .int .u32 (r.m.da : Int), .int .i64 r.m.dl, .int .i64 r.m.pr, .int .i64 r.m.sp, .int .i64 r.m.dp] #[.int .i64 r.x.frm, .int .i64 r.x.too, .int .i64 r.x.bnd, .slice y.av y.nv y.cv, .slice y.an y.nn y.cn, .slice y.al y.nl y.cl, .slice y.ac y.nc y.cc] 26 65
  rw [hs] at h1 h2
  exact ⟨box_below hx h3 (by omega), h2, h1, hb.trans (h3.mono hb.size)⟩
theorem PBx.drew {r : Rul} {y : WSl} {w w' : World} {B3 B4 : Nat} (h : PBx r y w B3 B4 w') : PBx r y w B3 B4 w'.drew := ⟨h.rule, h.want, h.mat, h.bel.drew⟩
/-- The words that were listed so far. -/
structure Wd (b : Nat) (wx : World) (H : List (List UInt8)) (A : Option Addr) (n c : Nat) (w' : World) : Prop where
  own : w'.ownsRow b 9 1 (.slice A n c) n (scells H)
  len : n = H.length
  bel : Below b wx w'
theorem Wd.addN {b n c : Nat} {w0 wx w' : World} {H : List (List UInt8)} {A : Option Addr} (h : Wd b wx H A n c w') (hw : ShW b w0 wx) (hn : n ≤ 1000000) (nm : List UInt8) {x : Int} (hx : In31 x) : Calls Tryd.prog 63 #[.slice A n c, .string (txt nm), .int .i64 x] w' fun e w'' => ∃ A2 n2 c2, e = .returned (.slice A2 n2 c2) ∧ Wd b wx (H ++ numP nm x) A2 n2 c2 w'' ∧ n2 ≤ n + 2 := by
  have hl := h.len
  subst hl
  refine (addN_any b w0 w' A c H nm x (hw.on h.bel) h.own hn hx).mono ?_
  rintro e w'' ⟨A2, c2, rfl, h1, h2⟩
  exact ⟨A2, _, c2, rfl, ⟨h1, rfl, h.bel.trans (h2.mono (Nat.le_refl _))⟩, by have := numP_len nm x; rw [List.length_append]; omega⟩
theorem Wd.addL {b n c n2 c2 : Nat} {w0 wx w' : World} {H : List (List UInt8)} {A A2 : Option Addr} {L : List Int} (h : Wd b wx H A n c w') (hw : ShW b w0 wx) (hn : n ≤ 1000000) (nm : List UInt8) (hr : RInt w0 w0.heap.size A2 n2 L) (hl : L.length ≤ 10001) (hx : ∀ v ∈ L, In31 v) : Calls Tryd.prog 62 #[.slice A n c, .string (txt nm), .slice A2 n2 c2] w' fun e w'' => ∃ A2 n2 c2, e = .returned (.slice A2 n2 c2) ∧ Wd b wx (H ++ numsP nm L) A2 n2 c2 w'' ∧ n2 ≤ n + 10002 := by
  have hl2 := h.len
  subst hl2
  have hr1 := hr.1
  refine (addL_any b w0 w' A c H nm A2 n2 c2 L (hw.on h.bel) h.own hn hr (by omega) hx).mono ?_
  rintro e w'' ⟨A2, c2, rfl, h1, h2⟩
  exact ⟨A2, _, c2, rfl, ⟨h1, rfl, h.bel.trans (h2.mono (Nat.le_refl _))⟩, by have := numsP_len nm L; rw [List.length_append]; omega⟩
theorem Wd.addP {b n c : Nat} {w0 wx w' : World} {H : List (List UInt8)} {A : Option Addr} (h : Wd b wx H A n c w') (hw : ShW b w0 wx) (hn : n ≤ 1000000) (nm : List UInt8) {a : Nat} (x : Int) (ha : a < 4294967296) : Calls Tryd.prog 64 #[.slice A n c, .string (txt nm), .agg #[.int .u32 (a : Int), .int .i64 x]] w' fun e w'' => ∃ A2 n2 c2, e = .returned (.slice A2 n2 c2) ∧ Wd b wx (H ++ prefP nm a x) A2 n2 c2 w'' ∧ n2 ≤ n + 2 := by
  have hl := h.len
  subst hl
  refine (addP_any b w0 w' A c H nm a x (hw.on h.bel) h.own hn ha).mono ?_
  rintro e w'' ⟨A2, c2, rfl, h1, h2⟩
  exact ⟨A2, _, c2, rfl, ⟨h1, rfl, h.bel.trans (h2.mono (Nat.le_refl _))⟩, by have := prefP_len nm a x; rw [List.length_append]; omega⟩
theorem wd_low {b n c : Nat} {w wx w' : World} {H H' : List (List UInt8)} {A : Option Addr} (h : Wd b wx H A n c w') (hb : wx.heap.size = b) (hw : Below w.heap.size w wx) (he : H' = H) : Wd w.heap.size w H' A n c w' := by
  subst he
  have hle : w.heap.size ≤ b := hb ▸ hw.size
  exact ⟨own_mono h.own hle, h.len, hw.trans (h.bel.mono hle)⟩
theorem wd_first {b : Nat} {wx w5 : World} (hb : wx.heap.size = b) (hb5 : Below wx.drew.heap.size wx.drew w5) (L : List (List UInt8)) (hl : L.length ≤ 1000) : Wd b wx L (some ⟨w5.heap.size, 0, none⟩) L.length L.length (w5.alloc (.cells (scells L).toArray 9)) := by
  have h0 : Below wx.heap.size wx wx.drew := (Below.refl _ _).drew
  have h1 : Below wx.heap.size wx w5 := h0.trans hb5
  have h2 := (Below.refl w5.heap.size w5).alloc (Nat.le_refl _) (.cells (scells L).toArray 9)
  subst hb
  refine ⟨⟨by rw [scells_len, Nat.mul_one], .inr ⟨w5.heap.size, L.length, (scells L).toArray, rfl, h1.size, heap_alloc_new w5 _, Nat.le_refl _, by unfold maxLen; omega, by simp [scells_len], by rw [← scells_len L, Nat.mul_one]; exact List.take_of_length_le (Nat.le_refl _)⟩⟩, rfl, h1.trans (h2.mono h1.size)⟩
theorem Wd.put {b n c m : Nat} {w0 wx w' w1 w6 : World} {H N : List (List UInt8)} {A A6 : Option Addr} {c6 : Nat} {o : Obj} (h : Wd b wx H A n c w') (hw : ShW b w0 wx) (hb1 : Below w'.heap.size w' w1) (hm : N.length = m) (hown : w6.ownsRow b 9 1 (.slice A6 (n + m) c6) (n + m) (scells H ++ scells N)) (hg : (w1.alloc o).grownBy w6 (.slice A n c : Value).ownBlock) : Wd b wx (H ++ N) A6 (n + m) c6 w6 := by
  have h1 : Below b wx w1 := h.bel.trans (hb1.mono (Nat.le_trans hw.hb h.bel.size))
  refine ⟨by rw [scells_app]; exact hown, by rw [List.length_append, hm, h.len], below_addb h1 (own_below h.own hb1) hw.hb hg⟩
theorem parts_any (r : Rul) (y : WSl) (w : World) (hL : Ld w) (hx : WArg w r.x y) (hf : Fair r) :
    Calls Tryd.prog 39 #[.agg (rarr r y)] w fun e w' => ∃ A n c, e = .returned (.slice A n c) ∧ Wd w.heap.size w (partsP r) A n c w' := by
  have hb1 : Below w.heap.size w (w.alloc (.cells (rarr r y) 67)) := (Below.refl _ _).alloc (Nat.le_refl _) _
  have hx1 : RBox w.heap.size r y (w.alloc (.cells (rarr r y) 67)) := heap_alloc_new w _
  have HL := hid hL
  have HX := hid hx
  have HF := hid hf
  have HB1 := hid hb1
  have HX1 := hid hx1
  clear hb1 hx1 hL hx hf
  obtain ⟨i5, hi5, hz0, hz1, hz2⟩ := info_parts (show (Tryd.prog.info? 9).map (fun i => (i.zero, i.size, i.bytes)) = some (some (.string ⟨#[]⟩), 1, 16) by kernel_rfl)
  have Ai := hid hi5; have Az0 := hid hz0; have Az1 := hid hz1; have Az2 := hid hz2
  clear hi5 hz0 hz1 hz2
  go_enter Tryd.func39, Tryd.ntmps39
  go_upto_region 1 with fail
  obtain ⟨w1, hw1⟩ : ∃ w1, w.alloc (.cells (rarr r y) 67) = w1 := ⟨_, rfl⟩
  have hs1 : w1.heap.size = w.heap.size + 1 := by rw [← hw1]; simp
  rw [hw1] at HB1 HX1 ⊢
  have hlt1 := pst_lt HX1.out
  go_cut [3, 4] (fun p q wx => ∃ B3 B4, p = .pointer (some ⟨B3, 0, none⟩) ∧ q = .pointer (some ⟨B4, 0, none⟩) ∧ Hid (PBx r y w B3 B4 wx))
  case first =>
    obtain ⟨_, _, d2, d3, d4, d5, d6, d7, d8, d9, d10, d11, d12, d13, d14, d15, d16⟩ := rbox_cells HX1.out
    clear hw1
    have Hs1 := hid hs1
    go_region_held3 (fun W => W.cell? ⟨w.heap.size, 2, none⟩ = some (.int .u32 (r.m.sa : Int)) ∧ W.cell? ⟨w.heap.size, 3, none⟩ = some (.int .i64 r.m.sl) ∧ W.cell? ⟨w.heap.size, 4, none⟩ = some (.int .u32 (r.m.da : Int)) ∧ W.cell? ⟨w.heap.size, 5, none⟩ = some (.int .i64 r.m.dl) ∧ W.cell? ⟨w.heap.size, 6, none⟩ = some (.int .i64 r.m.pr) ∧ W.cell? ⟨w.heap.size, 7, none⟩ = some (.int .i64 r.m.sp) ∧ W.cell? ⟨w.heap.size, 8, none⟩ = some (.int .i64 r.m.dp) ∧ W.cell? ⟨w.heap.size, 9, none⟩ = some (.int .i64 r.x.frm) ∧ W.cell? ⟨w.heap.size, 10, none⟩ = some (.int .i64 r.x.too) ∧ W.cell? ⟨w.heap.size, 11, none⟩ = some (.int .i64 r.x.bnd) ∧ W.cell? ⟨w.heap.size, 12, none⟩ = some (.slice y.av y.nv y.cv) ∧ W.cell? ⟨w.heap.size, 13, none⟩ = some (.slice y.an y.nn y.cn) ∧ W.cell? ⟨w.heap.size, 14, none⟩ = some (.slice y.al y.nl y.cl) ∧ W.cell? ⟨w.heap.size, 15, none⟩ = some (.slice y.ac y.nc y.cc))
      (first
        | go_keep)
      (fail)
    · go_wp2_with fail
      go_meet
      exact ⟨_, _, rfl, rfl, (pbx_one HB1.out HX1.out Hs1.out).drew⟩
    · go_wp2_with fail
      go_meet
      exact ⟨_, _, rfl, rfl, (pbx_two HB1.out HX1.out Hs1.out).drew⟩
  case rest =>
    obtain ⟨B3, B4, rfl, rfl, HP⟩ := hcut
    clear HB1 HX1 hlt1 hs1 hw1
    obtain ⟨wx, hwx⟩ : ∃ wx, wc = wx := ⟨_, rfl⟩
    rw [hwx] at HP ⊢
    clear hwx
    obtain ⟨b, hb⟩ : ∃ b, wx.heap.size = b := ⟨_, rfl⟩
    have HSz := hid hb
    have HSh : Hid (ShW b w wx) := ⟨HL.out, by rw [← hb]; exact HP.out.bel.size, HP.out.bel, by rw [hb]; exact Nat.le_refl _⟩
    have hB3 : B3 < b := by rw [← hb]; exact pst_lt HP.out.want
    have hB4 : B4 < b := by rw [← hb]; exact pst_lt HP.out.mat
    have hBR : w.heap.size < b := by rw [← hb]; exact pst_lt HP.out.rule
    have HCW := hid (fun (j : Nat) (v : Value) (hv : (#[.int .i64 r.x.frm, .int .i64 r.x.too, .int .i64 r.x.bnd, .slice y.av y.nv y.cv, .slice y.an y.nn y.cn, .slice y.al y.nl y.cl, .slice y.ac y.nc y.cc] : Array Value)[j]? = some v) (wi : World) (hb : Below b wx wi) => (hb.cell (p := ⟨B3, j, none⟩) hB3).trans ((cell_of_row _ _ j _ _ _ HP.out.want).trans hv))
    have HCM := hid (fun (j : Nat) (v : Value) (hv : (#[.int .u32 (r.m.sa : Int), .int .i64 r.m.sl, .int .u32 (r.m.da : Int), .int .i64 r.m.dl, .int .i64 r.m.pr, .int .i64 r.m.sp, .int .i64 r.m.dp] : Array Value)[j]? = some v) (wi : World) (hb : Below b wx wi) => (hb.cell (p := ⟨B4, j, none⟩) hB4).trans ((cell_of_row _ _ j _ _ _ HP.out.mat).trans hv))
    have HCR := hid (fun (j : Nat) (v : Value) (hv : (rarr r y)[j]? = some v) (wi : World) (hb : Below b wx wi) => (hb.cell (p := ⟨w.heap.size, j, none⟩) hBR).trans ((cell_of_row _ _ j _ _ _ HP.out.rule).trans hv))
    have hN := HF.out.nums
    obtain ⟨kp, hkp⟩ := Int.eq_ofNat_of_zero_le hN.pri.1
    obtain ⟨kf, hkf⟩ := Int.eq_ofNat_of_zero_le hN.frm.1
    obtain ⟨kt, hkt⟩ := Int.eq_ofNat_of_zero_le hN.too.1
    have HIp : Hid (∀ W, Ld W → Calls Tryd.prog 44 #[.int .i64 r.pri] W fun e w' => e = .returned (.string (txt (decL r.pri.toNat))) ∧ Below W.heap.size W w') := fun W hW => by
      have := itoa_any kp W hW (by have := hN.pri.2; omega)
      rw [hkp, Int.toNat_natCast]; exact this
    have HIf : Hid (∀ W, Ld W → Calls Tryd.prog 44 #[.int .i64 r.x.frm] W fun e w' => e = .returned (.string (txt (decL r.x.frm.toNat))) ∧ Below W.heap.size W w') := fun W hW => by
      have := itoa_any kf W hW (by have := hN.frm.2; omega)
      rw [hkf, Int.toNat_natCast]; exact this
    have HIt : Hid (∀ W, Ld W → Calls Tryd.prog 44 #[.int .i64 r.x.too] W fun e w' => e = .returned (.string (txt (decL r.x.too.toNat))) ∧ Below W.heap.size W w') := fun W hW => by
      have := itoa_any kt W hW (by have := hN.too.2; omega)
      rw [hkt, Int.toNat_natCast]; exact this
    have HN := hid hN
    obtain ⟨Dp, hDp⟩ : ∃ D, decL r.pri.toNat = D := ⟨_, rfl⟩
    obtain ⟨Df, hDf⟩ : ∃ D, decL r.x.frm.toNat = D := ⟨_, rfl⟩
    obtain ⟨Dt, hDt⟩ : ∃ D, decL r.x.too.toNat = D := ⟨_, rfl⟩
    rw [hDp] at HIp
    rw [hDf] at HIf
    rw [hDt] at HIt
    have HDp := hid hDp
    have HDf := hid hDf
    have HDt := hid hDt
    clear hb hkp hkf hkt hN hDp hDf hDt hB3 hB4 hBR
    go_upto_region 2 with fail
    go_cut [5] (fun v w2 => ∃ A c, v = .slice A 3 c ∧ Hid (Wd b wx [ruleW, r.name, Dp] A 3 c w2))
    case first =>
      have hbx : Below b wx wx := Below.refl _ _
      have e0 := HCR.out 0 (.string (txt r.name)) rfl wx hbx
      have e1 := HCR.out 1 (.int .i64 r.pri) rfl wx hbx
      have hlr : w.heap.size < wx.heap.size := pst_lt HP.out.rule
      clear hbx
      go_region_held3 (fun W => W.cell? ⟨w.heap.size, 0, none⟩ = some (.string (txt r.name)) ∧ W.cell? ⟨w.heap.size, 1, none⟩ = some (.int .i64 r.pri))
        (first
          | go_keep
          | exact s5)
        (first
          | (go_at_call 44; (with_reducible refine (HIp.out _ (HSh.out.ld.on ((Below.refl _ _).drew))).mono ?_); rintro e' w5 ⟨rfl, hb5⟩; have HB5 := hid hb5; have s5 : w5.cell? ⟨w.heap.size, 0, none⟩ = some (.string (txt r.name)) ∧ w5.cell? ⟨w.heap.size, 1, none⟩ = some (.int .i64 r.pri) := ⟨(hb5.cell (p := ⟨w.heap.size, 0, none⟩) hlr).trans e0, (hb5.cell (p := ⟨w.heap.size, 1, none⟩) hlr).trans e1⟩; clear hb5))
      all_goals
        go_wp2_with fail
        go_meet
        exact ⟨_, _, rfl, wd_first HSz.out HB5.out [ruleW, r.name, Dp] (show 3 ≤ 1000 from by decide)⟩
    case rest =>
      obtain ⟨A2, c2, rfl, HD2⟩ := hcut
      obtain ⟨wq, hwq⟩ : ∃ wq, wc = wq := ⟨_, rfl⟩
      rw [hwq] at HD2 ⊢
      clear hwq
      have g0 := HCW.out 0 (.int .i64 r.x.frm) rfl wq HD2.out.bel
      have hbq : b ≤ wq.heap.size := Nat.le_trans (Nat.le_of_eq HSz.out.symm) HD2.out.bel.size
      have HT5 : Hid (∀ (H : List (List UInt8)) (A : Option Addr) (n c : Nat) (wi : World), Wd b wx H A n c wi → n ≤ 1000000 → Calls Tryd.prog 62 #[.slice A n c, .string ⟨#[118, 105, 97]⟩, .slice y.av y.nv y.cv] wi fun e w'' => ∃ A2 n2 c2, e = .returned (.slice A2 n2 c2) ∧ Wd b wx (H ++ numsP (wordL 0) r.x.via) A2 n2 c2 w'' ∧ n2 ≤ n + 10002) := fun H A n c wi hd hn => hd.addL HSh.out hn (wordL 0) HX.out.via.row HF.out.via HN.out.via
      have HT6 : Hid (∀ (H : List (List UInt8)) (A : Option Addr) (n c : Nat) (wi : World), Wd b wx H A n c wi → n ≤ 1000000 → Calls Tryd.prog 62 #[.slice A n c, .string ⟨#[97, 118, 111, 105, 100, 45, 110, 111, 100, 101, 115]⟩, .slice y.an y.nn y.cn] wi fun e w'' => ∃ A2 n2 c2, e = .returned (.slice A2 n2 c2) ∧ Wd b wx (H ++ numsP (wordL 1) r.x.nds) A2 n2 c2 w'' ∧ n2 ≤ n + 10002) := fun H A n c wi hd hn => hd.addL HSh.out hn (wordL 1) HX.out.nds.row HF.out.nds HN.out.nds
      have HT7 : Hid (∀ (H : List (List UInt8)) (A : Option Addr) (n c : Nat) (wi : World), Wd b wx H A n c wi → n ≤ 1000000 → Calls Tryd.prog 62 #[.slice A n c, .string ⟨#[97, 118, 111, 105, 100, 45, 108, 105, 110, 107, 115]⟩, .slice y.al y.nl y.cl] wi fun e w'' => ∃ A2 n2 c2, e = .returned (.slice A2 n2 c2) ∧ Wd b wx (H ++ numsP (wordL 2) r.x.lks) A2 n2 c2 w'' ∧ n2 ≤ n + 10002) := fun H A n c wi hd hn => hd.addL HSh.out hn (wordL 2) HX.out.lks.row HF.out.lks HN.out.lks
      have HT8 : Hid (∀ (H : List (List UInt8)) (A : Option Addr) (n c : Nat) (wi : World), Wd b wx H A n c wi → n ≤ 1000000 → Calls Tryd.prog 62 #[.slice A n c, .string ⟨#[97, 118, 111, 105, 100, 45, 99, 111, 108, 111, 117, 114, 115]⟩, .slice y.ac y.nc y.cc] wi fun e w'' => ∃ A2 n2 c2, e = .returned (.slice A2 n2 c2) ∧ Wd b wx (H ++ numsP (wordL 3) r.x.cls) A2 n2 c2 w'' ∧ n2 ≤ n + 10002) := fun H A n c wi hd hn => hd.addL HSh.out hn (wordL 3) HX.out.cls.row HF.out.cls HN.out.cls
      have HT9 : Hid (∀ (H : List (List UInt8)) (A : Option Addr) (n c : Nat) (wi : World), Wd b wx H A n c wi → n ≤ 1000000 → Calls Tryd.prog 63 #[.slice A n c, .string ⟨#[99, 111, 115, 116]⟩, .int .i64 r.x.bnd] wi fun e w'' => ∃ A2 n2 c2, e = .returned (.slice A2 n2 c2) ∧ Wd b wx (H ++ numP (wordL 4) r.x.bnd) A2 n2 c2 w'' ∧ n2 ≤ n + 2) := fun H A n c wi hd hn => hd.addN HSh.out hn (wordL 4) HN.out.bnd
      have HT10 : Hid (∀ (H : List (List UInt8)) (A : Option Addr) (n c : Nat) (wi : World), Wd b wx H A n c wi → n ≤ 1000000 → Calls Tryd.prog 64 #[.slice A n c, .string ⟨#[115, 114, 99]⟩, .agg #[.int .u32 (r.m.sa : Int), .int .i64 r.m.sl]] wi fun e w'' => ∃ A2 n2 c2, e = .returned (.slice A2 n2 c2) ∧ Wd b wx (H ++ prefP (wordL 5) r.m.sa r.m.sl) A2 n2 c2 w'' ∧ n2 ≤ n + 2) := fun H A n c wi hd hn => hd.addP HSh.out hn (wordL 5) r.m.sl (src_lt HN.out).1
      have HT11 : Hid (∀ (H : List (List UInt8)) (A : Option Addr) (n c : Nat) (wi : World), Wd b wx H A n c wi → n ≤ 1000000 → Calls Tryd.prog 64 #[.slice A n c, .string ⟨#[100, 115, 116]⟩, .agg #[.int .u32 (r.m.da : Int), .int .i64 r.m.dl]] wi fun e w'' => ∃ A2 n2 c2, e = .returned (.slice A2 n2 c2) ∧ Wd b wx (H ++ prefP (wordL 6) r.m.da r.m.dl) A2 n2 c2 w'' ∧ n2 ≤ n + 2) := fun H A n c wi hd hn => hd.addP HSh.out hn (wordL 6) r.m.dl (src_lt HN.out).2
      have HT12 : Hid (∀ (H : List (List UInt8)) (A : Option Addr) (n c : Nat) (wi : World), Wd b wx H A n c wi → n ≤ 1000000 → Calls Tryd.prog 63 #[.slice A n c, .string ⟨#[112, 114, 111, 116, 111]⟩, .int .i64 r.m.pr] wi fun e w'' => ∃ A2 n2 c2, e = .returned (.slice A2 n2 c2) ∧ Wd b wx (H ++ numP (wordL 7) r.m.pr) A2 n2 c2 w'' ∧ n2 ≤ n + 2) := fun H A n c wi hd hn => hd.addN HSh.out hn (wordL 7) HN.out.pr
      have HT13 : Hid (∀ (H : List (List UInt8)) (A : Option Addr) (n c : Nat) (wi : World), Wd b wx H A n c wi → n ≤ 1000000 → Calls Tryd.prog 63 #[.slice A n c, .string ⟨#[115, 112, 111, 114, 116]⟩, .int .i64 r.m.sp] wi fun e w'' => ∃ A2 n2 c2, e = .returned (.slice A2 n2 c2) ∧ Wd b wx (H ++ numP (wordL 8) r.m.sp) A2 n2 c2 w'' ∧ n2 ≤ n + 2) := fun H A n c wi hd hn => hd.addN HSh.out hn (wordL 8) HN.out.sp
      have HT14 : Hid (∀ (H : List (List UInt8)) (A : Option Addr) (n c : Nat) (wi : World), Wd b wx H A n c wi → n ≤ 1000000 → Calls Tryd.prog 63 #[.slice A n c, .string ⟨#[100, 112, 111, 114, 116]⟩, .int .i64 r.m.dp] wi fun e w'' => ∃ A2 n2 c2, e = .returned (.slice A2 n2 c2) ∧ Wd b wx (H ++ numP (wordL 9) r.m.dp) A2 n2 c2 w'' ∧ n2 ≤ n + 2) := fun H A n c wi hd hn => hd.addN HSh.out hn (wordL 9) HN.out.dp
      have Hst := hid (show partsP r = headP r ++ numsP (wordL 0) r.x.via ++ numsP (wordL 1) r.x.nds ++ numsP (wordL 2) r.x.lks ++ numsP (wordL 3) r.x.cls ++ numP (wordL 4) r.x.bnd ++ prefP (wordL 5) r.m.sa r.m.sl ++ prefP (wordL 6) r.m.da r.m.dl ++ numP (wordL 7) r.m.pr ++ numP (wordL 8) r.m.sp ++ numP (wordL 9) r.m.dp ++ strictP r.strict from rfl)
      have Hhd := hid (show headP r = [ruleW, r.name, Dp] ++ [wordL 11, Df] ++ [wordL 12, Dt] by rw [← HDp.out, ← HDf.out, ← HDt.out]; rfl)
      have HBw := hid HP.out.bel
      clear HX HF HIp
      cases hs : r.strict with
      | false =>
        rw [hs] at Hst
        have Hsr := hid hs
        clear hs
        go_wp2_with (first
          | (go_at_call 44; (with_reducible refine (HIf.out _ (HSh.out.on HD2.out.bel).ld).mono ?_); rintro e' v3 ⟨rfl, hb3⟩; have HB3 := hid hb3; have HO3 := hid (own_below HD2.out.own hb3); have hv3 := hb3.size; clear hb3)
          | (at_builtin; refine wpList_append_own _ rfl _ _ 38 rfl b 9 i5 (.string ⟨#[]⟩) 1 16 Tryd.underlying38 Ai.out Az0.out Az1.out Az2.out rfl (by decide) _ _ _ rfl (HO3.out.alloc _) ⟨v3.heap.size, 0, none⟩ 2 2 (scells [wordL 11, Df]) rfl rfl (new_row (by rfl)) (scells_one _) (by unfold maxLen; omega) (by omega) (by simp; omega) ?_; intro u3 z3 hown6 hg6 _; obtain ⟨A3, c3, rfl⟩ := own_form hown6; have HD3 := hid (Wd.put HD2.out HSh.out HB3.out (show [wordL 11, Df].length = 2 from rfl) hown6 hg6); clear hown6 hg6; have g1 := HCW.out 1 (.int .i64 r.x.too) rfl z3 HD3.out.bel; have hz3 : b ≤ z3.heap.size := Nat.le_trans (Nat.le_of_eq HSz.out.symm) HD3.out.bel.size)
          | (go_at_call 44; (with_reducible refine (HIt.out _ (HSh.out.on HD3.out.bel).ld).mono ?_); rintro e' v4 ⟨rfl, hb4⟩; have HB4 := hid hb4; have HO4 := hid (own_below HD3.out.own hb4); have hv4 := hb4.size; clear hb4)
          | (at_builtin; refine wpList_append_own _ rfl _ _ 38 rfl b 9 i5 (.string ⟨#[]⟩) 1 16 Tryd.underlying38 Ai.out Az0.out Az1.out Az2.out rfl (by decide) _ _ _ rfl (HO4.out.alloc _) ⟨v4.heap.size, 0, none⟩ 2 2 (scells [wordL 12, Dt]) rfl rfl (new_row (by rfl)) (scells_one _) (by unfold maxLen; omega) (by omega) (by simp; omega) ?_; intro u4 z4 hown6 hg6 _; obtain ⟨A4, c4, rfl⟩ := own_form hown6; have HD4 := hid (Wd.put HD3.out HSh.out HB4.out (show [wordL 12, Dt].length = 2 from rfl) hown6 hg6); clear hown6 hg6; have g3 := HCW.out 3 (.slice y.av y.nv y.cv) rfl z4 HD4.out.bel)
          | (go_at_call 62; (with_reducible refine (HT5.out _ _ _ _ _ HD4.out (by omega)).mono ?_); rintro e' z5 ⟨A5, n5, c5, rfl, hd5, hm5⟩; have HD5 := hid hd5; have hn5 : n5 ≤ 10009 := (by omega); clear hd5 hm5; have g4 := HCW.out 4 (.slice y.an y.nn y.cn) rfl z5 HD5.out.bel)
          | (go_at_call 62; (with_reducible refine (HT6.out _ _ _ _ _ HD5.out (by omega)).mono ?_); rintro e' z6 ⟨A6, n6, c6, rfl, hd6, hm6⟩; have HD6 := hid hd6; have hn6 : n6 ≤ 20011 := (by omega); clear hd6 hm6; have g5 := HCW.out 5 (.slice y.al y.nl y.cl) rfl z6 HD6.out.bel)
          | (go_at_call 62; (with_reducible refine (HT7.out _ _ _ _ _ HD6.out (by omega)).mono ?_); rintro e' z7 ⟨A7, n7, c7, rfl, hd7, hm7⟩; have HD7 := hid hd7; have hn7 : n7 ≤ 30013 := (by omega); clear hd7 hm7; have g6 := HCW.out 6 (.slice y.ac y.nc y.cc) rfl z7 HD7.out.bel)
          | (go_at_call 62; (with_reducible refine (HT8.out _ _ _ _ _ HD7.out (by omega)).mono ?_); rintro e' z8 ⟨A8, n8, c8, rfl, hd8, hm8⟩; have HD8 := hid hd8; have hn8 : n8 ≤ 40015 := (by omega); clear hd8 hm8; have g2 := HCW.out 2 (.int .i64 r.x.bnd) rfl z8 HD8.out.bel)
          | (go_at_call 63; (with_reducible refine (HT9.out _ _ _ _ _ HD8.out (by omega)).mono ?_); rintro e' z9 ⟨A9, n9, c9, rfl, hd9, hm9⟩; have HD9 := hid hd9; have hn9 : n9 ≤ 40017 := (by omega); clear hd9 hm9; have gm0 := HCM.out 0 (.int .u32 (r.m.sa : Int)) rfl z9 HD9.out.bel; have gm1 := HCM.out 1 (.int .i64 r.m.sl) rfl z9 HD9.out.bel)
          | (go_at_call 64; (with_reducible refine (HT10.out _ _ _ _ _ HD9.out (by omega)).mono ?_); rintro e' z10 ⟨A10, n10, c10, rfl, hd10, hm10⟩; have HD10 := hid hd10; have hn10 : n10 ≤ 40019 := (by omega); clear hd10 hm10; have gm2 := HCM.out 2 (.int .u32 (r.m.da : Int)) rfl z10 HD10.out.bel; have gm3 := HCM.out 3 (.int .i64 r.m.dl) rfl z10 HD10.out.bel)
          | (go_at_call 64; (with_reducible refine (HT11.out _ _ _ _ _ HD10.out (by omega)).mono ?_); rintro e' z11 ⟨A11, n11, c11, rfl, hd11, hm11⟩; have HD11 := hid hd11; have hn11 : n11 ≤ 40021 := (by omega); clear hd11 hm11; have gm4 := HCM.out 4 (.int .i64 r.m.pr) rfl z11 HD11.out.bel)
          | (go_at_call 63; (with_reducible refine (HT12.out _ _ _ _ _ HD11.out (by omega)).mono ?_); rintro e' z12 ⟨A12, n12, c12, rfl, hd12, hm12⟩; have HD12 := hid hd12; have hn12 : n12 ≤ 40023 := (by omega); clear hd12 hm12; have gm5 := HCM.out 5 (.int .i64 r.m.sp) rfl z12 HD12.out.bel)
          | (go_at_call 63; (with_reducible refine (HT13.out _ _ _ _ _ HD12.out (by omega)).mono ?_); rintro e' z13 ⟨A13, n13, c13, rfl, hd13, hm13⟩; have HD13 := hid hd13; have hn13 : n13 ≤ 40025 := (by omega); clear hd13 hm13; have gm6 := HCM.out 6 (.int .i64 r.m.dp) rfl z13 HD13.out.bel)
          | (go_at_call 63; (with_reducible refine (HT14.out _ _ _ _ _ HD13.out (by omega)).mono ?_); rintro e' z14 ⟨A14, n14, c14, rfl, hd14, hm14⟩; have HD14 := hid hd14; have hn14 : n14 ≤ 40027 := (by omega); clear hd14 hm14; have gr := HCR.out 16 (.bool false) (by rw [← Hsr.out]; rfl) z14 HD14.out.bel; have hz14 : b ≤ z14.heap.size := Nat.le_trans (Nat.le_of_eq HSz.out.symm) HD14.out.bel.size))
        go_ret
        refine ⟨A14, n14, c14, rfl, ?_⟩
        have hd := HD14.out
        rw [Hst.out, Hhd.out]
        refine wd_low hd HSz.out HBw.out ?_
        simp only [strictP, Bool.false_eq_true, if_false, List.append_nil]
      | true =>
        rw [hs] at Hst
        have Hsr := hid hs
        clear hs
        go_wp2_with (first
          | (go_at_call 44; (with_reducible refine (HIf.out _ (HSh.out.on HD2.out.bel).ld).mono ?_); rintro e' v3 ⟨rfl, hb3⟩; have HB3 := hid hb3; have HO3 := hid (own_below HD2.out.own hb3); have hv3 := hb3.size; clear hb3)
          | (at_builtin; refine wpList_append_own _ rfl _ _ 38 rfl b 9 i5 (.string ⟨#[]⟩) 1 16 Tryd.underlying38 Ai.out Az0.out Az1.out Az2.out rfl (by decide) _ _ _ rfl (HO3.out.alloc _) ⟨v3.heap.size, 0, none⟩ 2 2 (scells [wordL 11, Df]) rfl rfl (new_row (by rfl)) (scells_one _) (by unfold maxLen; omega) (by omega) (by simp; omega) ?_; intro u3 z3 hown6 hg6 _; obtain ⟨A3, c3, rfl⟩ := own_form hown6; have HD3 := hid (Wd.put HD2.out HSh.out HB3.out (show [wordL 11, Df].length = 2 from rfl) hown6 hg6); clear hown6 hg6; have g1 := HCW.out 1 (.int .i64 r.x.too) rfl z3 HD3.out.bel; have hz3 : b ≤ z3.heap.size := Nat.le_trans (Nat.le_of_eq HSz.out.symm) HD3.out.bel.size)
          | (go_at_call 44; (with_reducible refine (HIt.out _ (HSh.out.on HD3.out.bel).ld).mono ?_); rintro e' v4 ⟨rfl, hb4⟩; have HB4 := hid hb4; have HO4 := hid (own_below HD3.out.own hb4); have hv4 := hb4.size; clear hb4)
          | (at_builtin; refine wpList_append_own _ rfl _ _ 38 rfl b 9 i5 (.string ⟨#[]⟩) 1 16 Tryd.underlying38 Ai.out Az0.out Az1.out Az2.out rfl (by decide) _ _ _ rfl (HO4.out.alloc _) ⟨v4.heap.size, 0, none⟩ 2 2 (scells [wordL 12, Dt]) rfl rfl (new_row (by rfl)) (scells_one _) (by unfold maxLen; omega) (by omega) (by simp; omega) ?_; intro u4 z4 hown6 hg6 _; obtain ⟨A4, c4, rfl⟩ := own_form hown6; have HD4 := hid (Wd.put HD3.out HSh.out HB4.out (show [wordL 12, Dt].length = 2 from rfl) hown6 hg6); clear hown6 hg6; have g3 := HCW.out 3 (.slice y.av y.nv y.cv) rfl z4 HD4.out.bel)
          | (go_at_call 62; (with_reducible refine (HT5.out _ _ _ _ _ HD4.out (by omega)).mono ?_); rintro e' z5 ⟨A5, n5, c5, rfl, hd5, hm5⟩; have HD5 := hid hd5; have hn5 : n5 ≤ 10009 := (by omega); clear hd5 hm5; have g4 := HCW.out 4 (.slice y.an y.nn y.cn) rfl z5 HD5.out.bel)
          | (go_at_call 62; (with_reducible refine (HT6.out _ _ _ _ _ HD5.out (by omega)).mono ?_); rintro e' z6 ⟨A6, n6, c6, rfl, hd6, hm6⟩; have HD6 := hid hd6; have hn6 : n6 ≤ 20011 := (by omega); clear hd6 hm6; have g5 := HCW.out 5 (.slice y.al y.nl y.cl) rfl z6 HD6.out.bel)
          | (go_at_call 62; (with_reducible refine (HT7.out _ _ _ _ _ HD6.out (by omega)).mono ?_); rintro e' z7 ⟨A7, n7, c7, rfl, hd7, hm7⟩; have HD7 := hid hd7; have hn7 : n7 ≤ 30013 := (by omega); clear hd7 hm7; have g6 := HCW.out 6 (.slice y.ac y.nc y.cc) rfl z7 HD7.out.bel)
          | (go_at_call 62; (with_reducible refine (HT8.out _ _ _ _ _ HD7.out (by omega)).mono ?_); rintro e' z8 ⟨A8, n8, c8, rfl, hd8, hm8⟩; have HD8 := hid hd8; have hn8 : n8 ≤ 40015 := (by omega); clear hd8 hm8; have g2 := HCW.out 2 (.int .i64 r.x.bnd) rfl z8 HD8.out.bel)
          | (go_at_call 63; (with_reducible refine (HT9.out _ _ _ _ _ HD8.out (by omega)).mono ?_); rintro e' z9 ⟨A9, n9, c9, rfl, hd9, hm9⟩; have HD9 := hid hd9; have hn9 : n9 ≤ 40017 := (by omega); clear hd9 hm9; have gm0 := HCM.out 0 (.int .u32 (r.m.sa : Int)) rfl z9 HD9.out.bel; have gm1 := HCM.out 1 (.int .i64 r.m.sl) rfl z9 HD9.out.bel)
          | (go_at_call 64; (with_reducible refine (HT10.out _ _ _ _ _ HD9.out (by omega)).mono ?_); rintro e' z10 ⟨A10, n10, c10, rfl, hd10, hm10⟩; have HD10 := hid hd10; have hn10 : n10 ≤ 40019 := (by omega); clear hd10 hm10; have gm2 := HCM.out 2 (.int .u32 (r.m.da : Int)) rfl z10 HD10.out.bel; have gm3 := HCM.out 3 (.int .i64 r.m.dl) rfl z10 HD10.out.bel)
          | (go_at_call 64; (with_reducible refine (HT11.out _ _ _ _ _ HD10.out (by omega)).mono ?_); rintro e' z11 ⟨A11, n11, c11, rfl, hd11, hm11⟩; have HD11 := hid hd11; have hn11 : n11 ≤ 40021 := (by omega); clear hd11 hm11; have gm4 := HCM.out 4 (.int .i64 r.m.pr) rfl z11 HD11.out.bel)
          | (go_at_call 63; (with_reducible refine (HT12.out _ _ _ _ _ HD11.out (by omega)).mono ?_); rintro e' z12 ⟨A12, n12, c12, rfl, hd12, hm12⟩; have HD12 := hid hd12; have hn12 : n12 ≤ 40023 := (by omega); clear hd12 hm12; have gm5 := HCM.out 5 (.int .i64 r.m.sp) rfl z12 HD12.out.bel)
          | (go_at_call 63; (with_reducible refine (HT13.out _ _ _ _ _ HD12.out (by omega)).mono ?_); rintro e' z13 ⟨A13, n13, c13, rfl, hd13, hm13⟩; have HD13 := hid hd13; have hn13 : n13 ≤ 40025 := (by omega); clear hd13 hm13; have gm6 := HCM.out 6 (.int .i64 r.m.dp) rfl z13 HD13.out.bel)
          | (go_at_call 63; (with_reducible refine (HT14.out _ _ _ _ _ HD13.out (by omega)).mono ?_); rintro e' z14 ⟨A14, n14, c14, rfl, hd14, hm14⟩; have HD14 := hid hd14; have hn14 : n14 ≤ 40027 := (by omega); clear hd14 hm14; have gr := HCR.out 16 (.bool true) (by rw [← Hsr.out]; rfl) z14 HD14.out.bel; have hz14 : b ≤ z14.heap.size := Nat.le_trans (Nat.le_of_eq HSz.out.symm) HD14.out.bel.size)
          | (at_builtin; refine wpList_append_own _ rfl _ _ 38 rfl b 9 i5 (.string ⟨#[]⟩) 1 16 Tryd.underlying38 Ai.out Az0.out Az1.out Az2.out rfl (by decide) _ _ _ rfl (HD14.out.own.alloc _) ⟨z14.heap.size, 0, none⟩ 1 1 (scells [wordL 10]) rfl rfl (new_row (by rfl)) (scells_one _) (by unfold maxLen; omega) (by omega) (by simp; omega) ?_; intro u16 z16 hown6 hg6 _; obtain ⟨A16, c16, rfl⟩ := own_form hown6; have HD16 := hid (Wd.put HD14.out HSh.out (Below.refl _ _) (show [wordL 10].length = 1 from rfl) hown6 hg6); clear hown6 hg6; skip))
        go_ret
        refine ⟨A16, _, c16, rfl, ?_⟩
        have hd := HD16.out
        rw [Hst.out, Hhd.out]
        refine wd_low hd HSz.out HBw.out ?_
        simp only [strictP, if_true]
theorem lprefR_len (name : List UInt8) (a : Nat) (n : Int) (h : a < 4294967296) : (prefR name a n).length ≤ name.length + 102 := by
  unfold prefR
  split
  · have := showS_len a n h
    simp only [List.length_append, List.length_cons, List.length_nil]
    omega
  · simp
theorem lshowR_len {r : Rul} (h : Fair r) : (showR r).length ≤ 1000000 := by
  have hn := h.nums
  obtain ⟨s1, s2⟩ := src_lt hn
  have a1 := dec31 hn.pri
  have a2 := dec31 hn.frm
  have a3 := dec31 hn.too
  have a4 := h.name
  have b1 := showLs_len (wordL 0) r.x.via hn.via
  have b2 := showLs_len (wordL 1) r.x.nds hn.nds
  have b3 := showLs_len (wordL 2) r.x.lks hn.lks
  have b4 := showLs_len (wordL 3) r.x.cls hn.cls
  have b5 := showN_len (wordL 4) r.x.bnd hn.bnd
  have c1 := h.via
  have c2 := h.nds
  have c3 := h.lks
  have c4 := h.cls
  have d1 := lprefR_len (wordL 5) r.m.sa r.m.sl s1
  have d2 := lprefR_len (wordL 6) r.m.da r.m.dl s2
  have e1 := showN_len (wordL 7) r.m.pr hn.pr
  have e2 := showN_len (wordL 8) r.m.sp hn.sp
  have e3 := showN_len (wordL 9) r.m.dp hn.dp
  have w0 : (wordL 0).length = 3 := rfl
  have w1 : (wordL 1).length = 11 := rfl
  have w2 : (wordL 2).length = 11 := rfl
  have w3 : (wordL 3).length = 13 := rfl
  have w4 : (wordL 4).length = 4 := rfl
  have w5 : (wordL 5).length = 3 := rfl
  have w6 : (wordL 6).length = 3 := rfl
  have w7 : (wordL 7).length = 5 := rfl
  have w8 : (wordL 8).length = 5 := rfl
  have w9 : (wordL 9).length = 5 := rfl
  have f1 : (if r.strict then [32] ++ wordL 10 else [] : List UInt8).length ≤ 7 := by cases r.strict <;> decide
  unfold showR headR listR portR
  simp only [List.length_append, List.length_cons, List.length_nil]
  omega
theorem parts_len {r : Rul} (h : Fair r) : (partsP r).length ≤ 100000 ∧ 0 < (partsP r).length := by
  have b1 := numsP_len (wordL 0) r.x.via
  have b2 := numsP_len (wordL 1) r.x.nds
  have b3 := numsP_len (wordL 2) r.x.lks
  have b4 := numsP_len (wordL 3) r.x.cls
  have b5 := numP_len (wordL 4) r.x.bnd
  have b6 := prefP_len (wordL 5) r.m.sa r.m.sl
  have b7 := prefP_len (wordL 6) r.m.da r.m.dl
  have b8 := numP_len (wordL 7) r.m.pr
  have b9 := numP_len (wordL 8) r.m.sp
  have b10 := numP_len (wordL 9) r.m.dp
  have b11 := strictP_len r.strict
  have c1 := h.via
  have c2 := h.nds
  have c3 := h.lks
  have c4 := h.cls
  have e : (headP r).length = 7 := rfl
  unfold partsP
  simp only [List.length_append, e]
  omega
theorem join_len {r : Rul} (h : Fair r) : (Lib.join (partsP r) [32]).length ≤ 1000000 := by
  have h1 := lshowR_len h
  rw [← join_parts h.nums] at h1
  simp only [List.length_append, List.length_cons, List.length_nil] at h1
  omega
theorem txt_data (l : List UInt8) : (txt l).data.toList = l := by simp [txt]
theorem ljoin_any (base : Nat) (A : Option Addr) (n c : Nat) (H : List (List UInt8)) (w : World) (hown : w.ownsRow base 9 1 (.slice A n c) n (scells H)) (hn : n = H.length) (h0 : 0 < n) (h1 : n ≤ 1000000) (hl : (Lib.join H [32]).length ≤ 1000000) :
    Calls Tryd.prog 38 #[.slice A n c, .string ⟨#[32]⟩] w fun e w' => e = .returned (.string (txt (Lib.join H [32]))) ∧ Below w.heap.size w w' := by
  obtain ⟨A', c', he, hcap, hr⟩ := own_strs hown hn.symm
  injection he with e1 _ e2
  subst e1
  subst e2
  obtain ⟨bk, o, rfl, hbk, hc⟩ := hr.2 h0
  have hlm : (H.map txt).length = n := by rw [List.length_map]; exact hn.symm
  have hmm : (H.map txt).map (fun x => x.data.toList) = H := by
    rw [List.map_map]
    conv => rhs; rw [← List.map_id H]
    exact List.map_congr_left fun x _ => txt_data x
  have hJ := strings_Join bk o c (H.map txt) ⟨#[32]⟩ w (fun j x hx => by
    rw [List.getElem?_map] at hx
    cases hy : H[j]? with
    | none => rw [hy] at hx; cases hx
    | some y =>
      rw [hy] at hx
      obtain rfl := Option.some.inj hx
      exact hc j y hy) hbk (by rw [hlm]; omega) (by rw [hlm]; exact hcap) (by rw [hmm]; show (Lib.join H [32]).length ≤ _; omega)
  rw [hlm, hmm] at hJ
  exact hJ
theorem isb_on {T e : TypeId} {B b : Nat} {bs : List Value} {w w' : World} (h : Lib.IsBuilder T e B b bs w) (hb : Below w.heap.size w w') : Lib.IsBuilder T e B b bs w' := by
  have f : ∀ p, Lib.BuilderAt T e B b p bs w → Lib.BuilderAt T e B b p bs w' := fun p hh => by
    have hlt := hh.lt
    obtain ⟨h1, v, h2, h3, h4⟩ := hh
    exact ⟨h1, v, box_below h2 hb hlt, own_below h3 hb, h4⟩
  exact h.imp (f _) (f _)
theorem str_cells (l : List UInt8) : Lib.strCells (txt l) = Lib.byteCells l := by unfold Lib.strCells Lib.byteCells; rw [txt_data]
theorem byte_app (a b : List UInt8) : Lib.byteCells a ++ Lib.byteCells b = Lib.byteCells (a ++ b) := by unfold Lib.byteCells; rw [List.map_append]
/-- A text is written on. -/
theorem sb_txt (B b : Nat) (x s : List UInt8) (w : World) (h : Lib.IsBuilder 79 5 B b (Lib.byteCells x) w) (hl : x.length + s.length ≤ 100000000) (hBw : B ≤ w.heap.size) :
    Calls Tryd.prog 37 #[.pointer (some ⟨b, 0, none⟩), .string (txt s)] w fun e w' => e = .returned (.tuple #[.int .i64 (s.length : Int), .nilIface]) ∧ Lib.IsBuilder 79 5 B b (Lib.byteCells (x ++ s)) w' ∧ Below B w w' := by
  refine (sb_string B b _ (txt s) w h (by rw [txt_size]; unfold Lib.byteCells; rw [List.length_map]; omega) hBw).mono ?_
  rintro e w' ⟨rfl, h1, h2⟩
  rw [str_cells, byte_app] at h1
  exact ⟨rfl, .inr h1, h2⟩
theorem sb_one (B b : Nat) (x : List UInt8) (w : World) (h : Lib.IsBuilder 79 5 B b (Lib.byteCells x) w) (hl : x.length ≤ 100000000) (hBw : B ≤ w.heap.size) :
    Calls Tryd.prog 40 #[.pointer (some ⟨b, 0, none⟩), .int .u8 10] w fun e w' => e = .returned .nilIface ∧ Lib.IsBuilder 79 5 B b (Lib.byteCells (x ++ [10])) w' ∧ Below B w w' := by
  refine (sb_byte B b _ 10 w h (by unfold Lib.byteCells; rw [List.length_map]; omega) hBw).mono ?_
  rintro e w' ⟨rfl, h1, h2⟩
  exact ⟨rfl, .inr (by rw [← byte_app]; exact h1), h2⟩
theorem sb_str (B b : Nat) (x : List UInt8) (w : World) (h : Lib.IsBuilder 79 5 B b (Lib.byteCells x) w) (hBw : B ≤ w.heap.size) :
    Calls Tryd.prog 41 #[.pointer (some ⟨b, 0, none⟩)] w fun e w' => e = .returned (.string (txt x)) ∧ Below B w w' := Builder_String_any B b x w h hBw
theorem lshow_any (A : Option Addr) (n c : Nat) (qs : List (Rul × WSl)) (w : World) (hL : Ld w) (h : RRul w A n c qs) (hn : n ≤ 20) (hf : ∀ q ∈ qs, Fair q.1) :
    Calls Tryd.prog 22 #[.slice A n c] w fun e w' => e = .returned (.string (txt (showAll (qs.map (·.1))))) ∧ Below w.heap.size w w' := by
  obtain ⟨R, hR⟩ : ∃ R, showAll (qs.map (·.1)) = R := ⟨_, rfl⟩
  rw [hR]
  have HR := hid hR
  have HH := hid h
  have HF := hid hf
  have HL := hid hL
  have Hlen := hid h.len
  obtain ⟨w1, hw1⟩ : ∃ w1, w.alloc (.cells #[.pointer none, .slice none 0 0] 79) = w1 := ⟨_, rfl⟩
  have HI0 : Hid (Lib.IsBuilder 79 5 w.heap.size w.heap.size (Lib.byteCells []) w1) := by
    rw [← hw1]; exact Lib.fresh_isBuilder _ _ w
  have HB0 : Hid (Below w.heap.size w w1) := by rw [← hw1]; exact (Below.refl _ _).alloc (Nat.le_refl _) _
  clear hR h hf hL
  go_enter Tryd.func22, Tryd.ntmps22
  go_wp2_with fail
  try rw [hw1]
  clear hw1
  go_loopw [8] (fun iv wr => ∃ (k : Nat) (x : List UInt8), k ≤ n ∧ iv = .int .i64 k ∧ Hid (x = showAll ((qs.take k).map (·.1))) ∧ x.length ≤ k * 1000000 ∧ Hid (Lib.IsBuilder 79 5 w.heap.size w.heap.size (Lib.byteCells x) wr) ∧ Hid (Below w.heap.size w wr)) (fun iv _ => n - (intOf iv).toNat)
  case atStart => exact ⟨0, [], Nat.zero_le _, rfl, hid (by simp [showAll]), by simp, HI0, HB0⟩
  case round =>
    obtain ⟨k, x, hk, rfl, HX, hxl, HI, HBr⟩ := hrel
    by_cases hlt : k < n
    · obtain ⟨⟨r, y⟩, hq⟩ : ∃ q, qs[k]? = some q := ⟨qs[k]'(by rw [Hlen.out]; exact hlt), List.getElem?_eq_getElem _⟩
      have hRr := HH.out.on HBr.out
      obtain ⟨b, off, rfl, _, hc⟩ := hRr.row (by omega)
      have hfair := HF.out _ (List.mem_of_getElem? hq)
      have hwant := hRr.wants _ (List.mem_of_getElem? hq)
      simp only at hfair hwant
      have z0 : wr.cell? ⟨b, off + k * 17, none⟩ = some (.string (txt r.name)) := hc k _ 0 _ hq rfl
      have z1 : wr.cell? ⟨b, off + k * 17 + 1, none⟩ = some (.int .i64 r.pri) := hc k _ 1 _ hq rfl
      have z2 : wr.cell? ⟨b, off + k * 17 + 2, none⟩ = some (.int .u32 (r.m.sa : Int)) := hc k _ 2 _ hq rfl
      have z3 : wr.cell? ⟨b, off + k * 17 + 3, none⟩ = some (.int .i64 r.m.sl) := hc k _ 3 _ hq rfl
      have z4 : wr.cell? ⟨b, off + k * 17 + 4, none⟩ = some (.int .u32 (r.m.da : Int)) := hc k _ 4 _ hq rfl
      have z5 : wr.cell? ⟨b, off + k * 17 + 5, none⟩ = some (.int .i64 r.m.dl) := hc k _ 5 _ hq rfl
      have z6 : wr.cell? ⟨b, off + k * 17 + 6, none⟩ = some (.int .i64 r.m.pr) := hc k _ 6 _ hq rfl
      have z7 : wr.cell? ⟨b, off + k * 17 + 7, none⟩ = some (.int .i64 r.m.sp) := hc k _ 7 _ hq rfl
      have z8 : wr.cell? ⟨b, off + k * 17 + 8, none⟩ = some (.int .i64 r.m.dp) := hc k _ 8 _ hq rfl
      have z9 : wr.cell? ⟨b, off + k * 17 + 9, none⟩ = some (.int .i64 r.x.frm) := hc k _ 9 _ hq rfl
      have z10 : wr.cell? ⟨b, off + k * 17 + 10, none⟩ = some (.int .i64 r.x.too) := hc k _ 10 _ hq rfl
      have z11 : wr.cell? ⟨b, off + k * 17 + 11, none⟩ = some (.int .i64 r.x.bnd) := hc k _ 11 _ hq rfl
      have z12 : wr.cell? ⟨b, off + k * 17 + 12, none⟩ = some (.slice y.av y.nv y.cv) := hc k _ 12 _ hq rfl
      have z13 : wr.cell? ⟨b, off + k * 17 + 13, none⟩ = some (.slice y.an y.nn y.cn) := hc k _ 13 _ hq rfl
      have z14 : wr.cell? ⟨b, off + k * 17 + 14, none⟩ = some (.slice y.al y.nl y.cl) := hc k _ 14 _ hq rfl
      have z15 : wr.cell? ⟨b, off + k * 17 + 15, none⟩ = some (.slice y.ac y.nc y.cc) := hc k _ 15 _ hq rfl
      have z16 : wr.cell? ⟨b, off + k * 17 + 16, none⟩ = some (.bool r.strict) := hc k _ 16 _ hq rfl
      have kl : (k : Int) < (n : Int) := by omega
      have kd : decide ((k : Int) < (n : Int)) = true := decide_eq_true kl
      have ek : IntKind.i64.wrap ((k : Int) + 1) = (k : Int) + 1 := by rw [IntKind.wrap_i64]; omega
      have hz : RBox wr.heap.size noRul noWSl (wr.alloc (.cells #[.string ⟨#[]⟩, .int .i64 0, .int .u32 0, .int .i64 0, .int .u32 0, .int .i64 0, .int .i64 0, .int .i64 0, .int .i64 0, .int .i64 0, .int .i64 0, .int .i64 0, .slice none 0 0, .slice none 0 0, .slice none 0 0, .slice none 0 0, .bool false] 67)) := heap_alloc_new wr _
      have HQ := hid hq
      have HFa := hid hfair
      have HW := hid hwant
      clear hc hq hRr hfair hwant
      go_upto_region 5 with (with_reducible refine store_rule_lit (r := r) (y := y) hz rfl _ _ rfl (by go_simp) (by go_simp) ?_)
      obtain ⟨w6, hw6⟩ : ∃ w6, (wr.alloc (.cells #[.string ⟨#[]⟩, .int .i64 0, .int .u32 0, .int .i64 0, .int .u32 0, .int .i64 0, .int .i64 0, .int .i64 0, .int .i64 0, .int .i64 0, .int .i64 0, .int .i64 0, .slice none 0 0, .slice none 0 0, .slice none 0 0, .slice none 0 0, .bool false] 67)).setRow wr.heap.size (rarr r y) = w6 := ⟨_, rfl⟩
      simp only [hw6, Act.put]
      rw [World.setRow_alloc_new] at hw6
      obtain ⟨BS, hBS⟩ : ∃ BS, wr.heap.size = BS := ⟨_, rfl⟩
      simp only [hBS]
      have hb6 : Below wr.heap.size wr w6 := by rw [← hw6]; exact (Below.refl _ _).alloc (Nat.le_refl _) _
      have HBx := hid (show RBox BS r y w6 by rw [← hw6, ← hBS]; exact heap_alloc_new wr _)
      have HW6 := hid (HW.out.on hb6)
      have HB6 := hid (HBr.out.trans (hb6.mono HBr.out.size))
      have HI6 := hid (isb_on HI.out hb6)
      have HLd6 := hid (HL.out.on HB6.out)
      have HP := hid (parts_any r y w6 HLd6.out HW6.out HFa.out)
      obtain ⟨J, hJ⟩ : ∃ J, Lib.join (partsP r) [32] = J := ⟨_, rfl⟩
      have hJl : J.length ≤ 1000000 := by rw [← hJ]; exact join_len HFa.out
      have HJ := hid hJ
      have hpl : (partsP r).length ≤ 100000 ∧ 0 < (partsP r).length := parts_len HFa.out
      have HPl := hid hpl
      have hx20 : x.length ≤ 20000000 := by omega
      obtain ⟨x1, hx1⟩ : ∃ x1, x ++ J = x1 := ⟨_, rfl⟩
      obtain ⟨x2, hx2⟩ : ∃ x2, x1 ++ [59] = x2 := ⟨_, rfl⟩
      obtain ⟨x3, hx3⟩ : ∃ x3, x2 ++ [10] = x3 := ⟨_, rfl⟩
      have l1 : x1.length = x.length + J.length := by rw [← hx1, List.length_append]
      have l2 : x2.length = x1.length + 1 := by rw [← hx2, List.length_append]; rfl
      have H1 := hid hx1
      have H2 := hid hx2
      have H3 := hid hx3
      have hX3 : x3 = showAll ((qs.take (k + 1)).map (·.1)) := by
        rw [← hx3, ← hx2, ← hx1, HX.out, List.take_add_one, HQ.out, ← hJ]
        unfold showAll
        rw [List.map_append, List.flatMap_append]
        show _ = _ ++ ((some (r, y)).toList.map (·.1)).flatMap showR
        simp only [Option.toList_some, List.map_cons, List.map_nil, List.flatMap_cons, List.flatMap_nil, List.append_nil]
        rw [← join_parts HFa.out.nums]
        simp only [List.append_assoc]
      have l3 : x3.length ≤ (k + 1) * 1000000 := by
        have h1 := lshowR_len HFa.out
        rw [← join_parts HFa.out.nums, hJ] at h1
        simp only [List.length_append, List.length_cons, List.length_nil] at h1
        have : x3.length = x2.length + 1 := by rw [← hx3, List.length_append]; rfl
        rw [Nat.add_mul]
        omega
      have HX3 := hid hX3
      have HL3 := hid l3
      clear hw6 hBS hz HW hb6 hJ hpl hx1 hx2 hx3 hX3 l3 z0 z1 z2 z3 z4 z5 z6 z7 z8 z9 z10 z11 z12 z13 z14 z15 z16
      go_wp2_with (first
        | (with_reducible refine load_rule HBx.out rfl _ rfl (by go_simp) ?_)
        | (go_at_call 39; (with_reducible refine HP.out.mono ?_); rintro e' w7 ⟨A7, n7, c7, rfl, hd7⟩; have HD7 := hid hd7; have HI7 := hid (isb_on HI6.out hd7.bel); have HB7 := hid (HB6.out.trans (hd7.bel.mono HB6.out.size)); have hn7 : n7 ≤ 100000 ∧ 0 < n7 := (by rw [hd7.len]; exact HPl.out); have HJn := hid (ljoin_any w6.heap.size A7 n7 c7 (partsP r) w7 hd7.own hd7.len hn7.2 (by omega) (by rw [HJ.out]; exact hJl)); (rw [HJ.out] at HJn); clear hd7)
        | (go_at_call 38; (with_reducible refine HJn.out.mono ?_); rintro e' w8 ⟨rfl, hb8⟩; have HI8 := hid (isb_on HI7.out hb8); have HB8 := hid (HB7.out.trans (hb8.mono HB7.out.size)); have HS8 := hid (sb_txt w.heap.size w.heap.size x J w8 HI8.out (by omega) HB8.out.size); (rw [H1.out] at HS8); clear hb8)
        | (go_at_call 37; (with_reducible refine HS8.out.mono ?_); rintro e' w9 ⟨rfl, hi9, hb9⟩; have HB9 := hid (HB8.out.trans hb9); have HS9 := hid (show Calls Tryd.prog 37 #[.pointer (some ⟨w.heap.size, 0, none⟩), .string ⟨#[59]⟩] w9 _ from sb_txt w.heap.size w.heap.size x1 [59] w9 hi9 (by simp; omega) HB9.out.size); (rw [H2.out] at HS9); clear hi9 hb9)
        | (go_at_call 37; (with_reducible refine HS9.out.mono ?_); rintro e' w10 ⟨rfl, hi10, hb10⟩; have HB10 := hid (HB9.out.trans hb10); have HS10 := hid (sb_one w.heap.size w.heap.size x2 w10 hi10 (by omega) HB10.out.size); (rw [H3.out] at HS10); clear hi10 hb10)
        | (go_at_call 40; (with_reducible refine HS10.out.mono ?_); rintro e' w11 ⟨rfl, hi11, hb11⟩; have HB11 := hid (HB10.out.trans hb11); have HI11 := hid hi11; clear hi11 hb11))
      go_roundw
      case rel => exact ⟨k + 1, x3, by omega, by go_num, HX3, HL3.out, HI11, HB11⟩
      case measure => simp [intOf]; omega
    · obtain rfl : k = n := by omega
      have kd : decide ((k : Int) < (k : Int)) = false := decide_eq_false (by omega)
      have HQ2 := hid (show R = x by rw [← HR.out, HX.out, List.take_of_length_le (by rw [Hlen.out]; exact Nat.le_refl _)])
      have HSt := hid (sb_str w.heap.size w.heap.size x wr HI.out HBr.out.size)
      go_wp2_with (go_at_call 41; (with_reducible refine HSt.out.mono ?_); rintro e' w8 ⟨rfl, hb8⟩)
      go_ret
      exact ⟨by rw [HQ2.out]; rfl, HBr.out.trans hb8⟩
theorem pol_spec : PolicySpec Ld 19 22 where
  on := fun _ _ h hb => h.on hb
  parse := fun s w hL h => lparse_any s w hL (by omega)
  shows := fun A n c qs w hL h hn hf => lshow_any A n c qs w hL h hn fun q hq => (hf q hq).1
end Go.Proofs.YtcmkcloapenpnaaDoor
