/- sound.At. -/
import Derived.Test.YthoblabimkfjpaaSuI
import Derived.Test.YthoblabimkfjpaaSuJ
import Derived.Test.YthoblabimkfjpaaSoB
namespace Go.Proofs.Ythoblabimkfjpaa
open Go.RowKit Go.Sort Go.Proofs
set_option maxHeartbeats 6400000
set_option maxRecDepth 1000000
theorem insertion_nil (w : World) : Calls Try.prog 59 #[.slice none 0 0, .int .i64 0, .int .i64 0, .func (.func 35) #[] #[]] w fun e w' => e = .returned (.tuple #[]) ∧ w = w' := by
  go_enter Try.func59, Try.ntmps59
  go_wp2_with fail
  refine wp_loop_rounds 1 ?_
  rw [rounds_succ]
  go_wp2_with fail
  go_end0
  exact ⟨rfl, rfl⟩
theorem stable_nil (w : World) : Calls Try.prog 49 #[.slice none 0 0, .int .i64 0, .func (.func 35) #[] #[]] w fun e w' => e = .returned (.tuple #[]) ∧ w = w' := by
  have HI := hid insertion_nil
  go_enter Try.func49, Try.ntmps49
  go_wp2_with fail
  refine wp_loop_rounds 1 ?_
  rw [rounds_succ]
  go_wp2_with (first | (go_at_call 59; (with_reducible refine (HI.out _).mono ?_); rintro _ _ ⟨rfl, rfl⟩))
  refine wp_loop_rounds 1 ?_
  rw [rounds_succ]
  go_wp2_with fail
  go_end0
  exact ⟨rfl, rfl⟩
theorem sort_nil (w : World) : Calls Try.prog 34 #[.slice none 0 0, .func (.func 35) #[] #[]] w fun e w' => e = .returned (.tuple #[]) ∧ w = w' := by
  have HI := hid stable_nil
  go_enter Try.func34, Try.ntmps34
  go_wp2_with (first | (go_at_call 49; (with_reducible refine (HI.out _).mono ?_); rintro _ _ ⟨rfl, rfl⟩))
  go_end0
  exact ⟨rfl, rfl⟩
/-- A copy of a rule: its lists lie in blocks of the call's own. -/
def Cpy (w wr : World) (q : Rul × WSl) : Prop := OwW wr w.heap.size q ∧ ∃ y, WArg w q.1.x y ∧ q.2.nv = y.nv ∧ q.2.nn = y.nn ∧ q.2.nl = y.nl ∧ q.2.nc = y.nc
theorem Cpy.warg {w wr : World} {q : Rul × WSl} (h : Cpy w wr q) : WArg wr q.1.x q.2 := by
  obtain ⟨h1, y, h2, h3, h4, h5, h6⟩ := h
  exact h1.warg h2 h3 h4 h5 h6
theorem Cpy.kept {w wx wy : World} {q : Rul × WSl} (h : Cpy w wx q) (hk : ∀ b cur, w.heap.size ≤ b → wx.heap[b]? = some (.cells cur 3 (0, 0)) → wy.heap[b]? = some (.cells cur 3 (0, 0))) : Cpy w wy q := ⟨h.1.kept hk, h.2⟩
theorem Cpy.on {w wx wy : World} {q : Rul × WSl} (h : Cpy w wx q) (hb : Below wx.heap.size wx wy) : Cpy w wy q := ⟨h.1.on hb, h.2⟩
structure AtSt (w : World) (node : Int) (rs : List Rul) (i : Nat) (v : Value) (ps : List (Rul × WSl)) (wr : World) : Prop where
  bel : Below w.heap.size w wr
  own : wr.ownsRow w.heap.size 58 17 v ps.length (rrow ps)
  map : ps.map (·.1) = (rs.take i).filter fun q => decide (q.x.frm = node)
  lst : ∀ q ∈ ps, Cpy w wr q
  non : ps = [] → v = .slice none 0 0
theorem AtSt.on {w : World} {node : Int} {rs : List Rul} {i : Nat} {v : Value} {ps : List (Rul × WSl)} {wr wx : World} (h : AtSt w node rs i v ps wr) (hb : Below wr.heap.size wr wx) : AtSt w node rs i v ps wx :=
  ⟨h.bel.trans (hb.mono h.bel.size), own_below h.own hb, h.map, fun q hq => (h.lst q hq).on hb, h.non⟩
theorem AtSt.skip {w : World} {node : Int} {rs : List Rul} {i : Nat} {v : Value} {ps : List (Rul × WSl)} {wr : World} {r : Rul} (h : AtSt w node rs i v ps wr) (hr : rs[i]? = some r) (hn : r.x.frm ≠ node) : AtSt w node rs (i + 1) v ps wr := by
  refine ⟨h.bel, h.own, ?_, h.lst, h.non⟩
  rw [List.take_add_one, hr, List.filter_append, ← h.map]
  simp [hn]
theorem AtSt.put {w : World} {node : Int} {rs : List Rul} {i : Nat} {v v' : Value} {ps : List (Rul × WSl)} {wr w' : World} {r : Rul} {y : WSl} {o : Obj} (h : AtSt w node rs i v ps wr) (hr : rs[i]? = some r) (hn : r.x.frm = node) (hc : Cpy w wr (r, y))
    (hown : w'.ownsRow w.heap.size 58 17 v' (ps.length + 1) (rrow ps ++ (rarr r y).toList)) (hg : (wr.alloc o).grownBy w' v.ownBlock) : AtSt w node rs (i + 1) v' (ps ++ [(r, y)]) w' := by
  have hk : ∀ b cur, w.heap.size ≤ b → wr.heap[b]? = some (.cells cur 3 (0, 0)) → w'.heap[b]? = some (.cells cur 3 (0, 0)) := by
    intro b cur _ hb
    have hlt := pst_lt hb
    rw [hg.block b (by rw [size_alloc_eq]; omega) (fun e => ?_), Below.heap_alloc _ _ _ hlt]
    · exact hb
    · rcases h.own.2 with ⟨rfl, _⟩ | ⟨g, cap, cur', rfl, _, hg', _⟩
      · cases e
      · have e' : some b = some g := e
        injection e' with e'
        subst e'
        rw [hg'] at hb
        simp at hb
  refine ⟨below_app h.bel (Nat.le_refl _) h.own hg, ?_, ?_, ?_, fun e => by simp at e⟩
  · rw [List.length_append, List.length_singleton, rrow_app]
    simpa [rrow] using hown
  · rw [List.map_append, h.map, List.take_add_one, hr, List.filter_append]
    simp [hn]
  · intro q hq
    rcases List.mem_append.1 hq with hq | hq
    · exact (h.lst q hq).kept hk
    · rw [List.mem_singleton] at hq
      subst hq
      exact hc.kept hk
/-- What the sort leaves of a row of copies. -/
theorem sort_row {w wr w' : World} {node : Int} {rs : List Rul} {g c : Nat} {ps : List (Rul × WSl)} {d' : Array TQ} (h : AtSt w node rs rs.length (.slice (some ⟨g, 0, none⟩) ps.length c) ps wr) (h0 : 0 < ps.length) (hc : ps.length ≤ c)
    (hS : Srt encT 17 wr g 0 d' w') (hp : PermIn 0 (tagA ps).size (tagA ps) d') (hs : SoT prT tgT d' 0 (tagA ps).size) :
    ∃ ps' : List (Rul × WSl), ps'.length = ps.length ∧ ps'.map (·.1) = atS node rs ∧ RRul w' (some ⟨g, 0, none⟩) ps.length c ps' ∧ Below w.heap.size w w' := by
  obtain ⟨hH, hbg, cs, hgc⟩ := holds_row h.own h0
  have hgl := pst_lt hgc
  have hds : d'.size = ps.length := hp.1.trans (tagA_size ps)
  obtain ⟨hH', hgl'⟩ := hS.holds hH hgl (hp.1)
  have hmap := sorted_is (tagA_ris ps) hp hs
  rw [tagA_map, h.map, List.take_length] at hmap
  have hmem : ∀ q ∈ d'.toList.map (·.1), q ∈ ps := by
    intro q hq
    obtain ⟨x, hx, rfl⟩ := List.mem_map.1 hq
    have hP : d'.toList.Perm (tagA ps).toList := by
      have := hp.2.2
      rw [Array.extract_size] at this
      rw [← hp.1, Array.extract_size] at this
      exact this
    have := hP.mem_iff.1 hx
    unfold tagA at this
    simp only [List.mem_zipIdx_iff_getElem?] at this
    exact List.mem_of_getElem? this
  refine ⟨d'.toList.map (·.1), by simp [hds], by rw [List.map_map]; exact hmap, ⟨by simp [hds], hc, fun h => (by cases h), fun _ => ⟨g, 0, rfl, hgl', fun i q j v hq hv => ?_⟩, fun q hq => ?_⟩, h.bel.trans (srt_below hS hbg h.bel.size)⟩
  · rw [List.getElem?_map, Option.map_eq_some_iff] at hq
    obtain ⟨x, hx, rfl⟩ := hq
    obtain ⟨hi, he⟩ := List.getElem?_eq_some_iff.1 hx
    have hi' : i < d'.size := by simpa using hi
    have hj : j < 17 := by have := (Array.getElem?_eq_some_iff.1 hv).1; simpa [rarr] using this
    have hcell := (HoldsK.cell hH' hi' hj).1
    rw [getElem!_pos d' i hi'] at hcell
    have hxe : d'[i] = x := by simpa using he
    rw [hxe] at hcell
    rw [hcell]
    show some (encT x)[j]! = some v
    unfold encT
    rw [List.getElem!_eq_getElem?_getD, Array.getElem?_toList, hv]
    rfl
  · refine ((h.lst q (hmem q hq)).kept fun b cur _ hb => ?_).warg
    rw [srt_other hS (pst_lt hb) (fun e => ?_)]
    · exact hb
    · subst e
      rw [hgc] at hb
      simp at hb
theorem at_any (A : Option Addr) (n c : Nat) (qs : List (Rul × WSl)) (node : Int) (w : World) (hq : RRul w A n c qs) (hn : n ≤ 30) (hnm : ∀ q ∈ qs, q.1.name.length ≤ 100) (hfw : ∀ q ∈ qs, q.2.nv ≤ 100 ∧ q.2.nn ≤ 100 ∧ q.2.nl ≤ 100 ∧ q.2.nc ≤ 100) :
    Calls Try.prog 20 #[.slice A n c, .int .i64 node] w fun e w' => ∃ A' c' ps, e = .returned (.slice A' ps.length c') ∧ ps.map (·.1) = atS node (qs.map (·.1)) ∧ RRul w' A' ps.length c' ps ∧ Below w.heap.size w w' := by
  have HH := hid hq
  have HNm := hid hnm
  have HFw := hid hfw
  have Hlen := hid hq.len
  obtain ⟨rs, hrs⟩ : ∃ rs, qs.map (·.1) = rs := ⟨_, rfl⟩
  rw [hrs]
  have Hrs := hid hrs
  have HN0 := hid sort_nil
  obtain ⟨i5, hi5, hz0, hz1, hz2⟩ := info_parts (show (Try.prog.info? 58).map (fun i => (i.zero, i.size, i.bytes)) = some (some (.agg #[.string ⟨#[]⟩, .int .i64 0, .int .u32 0, .int .i64 0, .int .u32 0, .int .i64 0, .int .i64 0, .int .i64 0, .int .i64 0, .int .i64 0, .int .i64 0, .int .i64 0, .slice none 0 0, .slice none 0 0, .slice none 0 0, .slice none 0 0, .bool false]), 17, 208) by kernel_rfl)
  have Ai := hid hi5; have Az0 := hid hz0; have Az1 := hid hz1; have Az2 := hid hz2
  clear hq hnm hfw hrs hi5 hz0 hz1 hz2
  go_enter Try.func20, Try.ntmps20
  go_wp2_with fail
  go_loopw [5, 7, 10] (fun sv _ iv wr => ∃ (i : Nat) (ps : List (Rul × WSl)) (A1 : Option Addr) (m c1 : Nat), sv = .slice A1 m c1 ∧ i ≤ n ∧ iv = .int .i64 i ∧ m ≤ i ∧ Hid (ps.length = m) ∧ Hid (AtSt w node rs i (.slice A1 m c1) ps wr)) (fun _ _ iv _ => n - (intOf iv).toNat)
  case atStart => exact ⟨0, [], none, 0, 0, rfl, Nat.zero_le _, rfl, Nat.le_refl _, rfl, ⟨Below.refl _ _, World.ownsRow_nil _ _ _ _, rfl, fun q hq => (by cases hq), fun _ => rfl⟩⟩
  case round =>
    obtain ⟨i, ps, A1, m, c1, rfl, hi, rfl, hpl, HPl, HS⟩ := hrel
    by_cases hlt : i < n
    · obtain ⟨⟨r, y⟩, hq⟩ : ∃ q, qs[i]? = some q := ⟨qs[i]'(by rw [Hlen.out]; exact hlt), List.getElem?_eq_getElem _⟩
      have hRr := HH.out.on HS.out.bel
      obtain ⟨b, off, rfl, hbb, hc⟩ := hRr.row (by omega)
      have hm := List.mem_of_getElem? hq
      have hwant0 := HH.out.wants _ hm
      have hwant := hRr.wants _ hm
      have hnm := HNm.out _ hm
      have hfw := HFw.out _ hm
      have hri : rs[i]? = some r := by rw [← Hrs.out, List.getElem?_map, hq]; rfl
      simp only at hwant hwant0 hnm hfw
      have z0 : wr.cell? ⟨b, off + i * 17, none⟩ = some (.string (txt r.name)) := hc i _ 0 _ hq rfl
      have z1 : wr.cell? ⟨b, off + i * 17 + 1, none⟩ = some (.int .i64 r.pri) := hc i _ 1 _ hq rfl
      have z2 : wr.cell? ⟨b, off + i * 17 + 2, none⟩ = some (.int .u32 (r.m.sa : Int)) := hc i _ 2 _ hq rfl
      have z3 : wr.cell? ⟨b, off + i * 17 + 3, none⟩ = some (.int .i64 r.m.sl) := hc i _ 3 _ hq rfl
      have z4 : wr.cell? ⟨b, off + i * 17 + 4, none⟩ = some (.int .u32 (r.m.da : Int)) := hc i _ 4 _ hq rfl
      have z5 : wr.cell? ⟨b, off + i * 17 + 5, none⟩ = some (.int .i64 r.m.dl) := hc i _ 5 _ hq rfl
      have z6 : wr.cell? ⟨b, off + i * 17 + 6, none⟩ = some (.int .i64 r.m.pr) := hc i _ 6 _ hq rfl
      have z7 : wr.cell? ⟨b, off + i * 17 + 7, none⟩ = some (.int .i64 r.m.sp) := hc i _ 7 _ hq rfl
      have z8 : wr.cell? ⟨b, off + i * 17 + 8, none⟩ = some (.int .i64 r.m.dp) := hc i _ 8 _ hq rfl
      have z9 : wr.cell? ⟨b, off + i * 17 + 9, none⟩ = some (.int .i64 r.x.frm) := hc i _ 9 _ hq rfl
      have z10 : wr.cell? ⟨b, off + i * 17 + 10, none⟩ = some (.int .i64 r.x.too) := hc i _ 10 _ hq rfl
      have z11 : wr.cell? ⟨b, off + i * 17 + 11, none⟩ = some (.int .i64 r.x.bnd) := hc i _ 11 _ hq rfl
      have z12 : wr.cell? ⟨b, off + i * 17 + 12, none⟩ = some (.slice y.av y.nv y.cv) := hc i _ 12 _ hq rfl
      have z13 : wr.cell? ⟨b, off + i * 17 + 13, none⟩ = some (.slice y.an y.nn y.cn) := hc i _ 13 _ hq rfl
      have z14 : wr.cell? ⟨b, off + i * 17 + 14, none⟩ = some (.slice y.al y.nl y.cl) := hc i _ 14 _ hq rfl
      have z15 : wr.cell? ⟨b, off + i * 17 + 15, none⟩ = some (.slice y.ac y.nc y.cc) := hc i _ 15 _ hq rfl
      have z16 : wr.cell? ⟨b, off + i * 17 + 16, none⟩ = some (.bool r.strict) := hc i _ 16 _ hq rfl
      have kl : (i : Int) < (n : Int) := by omega
      have hz : RBox wr.heap.size noRul noWSl (wr.alloc (.cells #[.string ⟨#[]⟩, .int .i64 0, .int .u32 0, .int .i64 0, .int .u32 0, .int .i64 0, .int .i64 0, .int .i64 0, .int .i64 0, .int .i64 0, .int .i64 0, .int .i64 0, .slice none 0 0, .slice none 0 0, .slice none 0 0, .slice none 0 0, .bool false] 58)) := heap_alloc_new wr _
      have HW := hid hwant
      have HW0 := hid hwant0
      have Hnm := hid hnm
      have Hfw := hid hfw
      have Hri := hid hri
      clear hc hq hRr hwant hwant0 hnm hfw hm hri
      go_upto_region 5 with (with_reducible refine store_rule_lit (r := r) (y := y) hz rfl _ _ rfl (by go_simp) (by go_simp) ?_)
      obtain ⟨w6, hw6⟩ : ∃ w6, (wr.alloc (.cells #[.string ⟨#[]⟩, .int .i64 0, .int .u32 0, .int .i64 0, .int .u32 0, .int .i64 0, .int .i64 0, .int .i64 0, .int .i64 0, .int .i64 0, .int .i64 0, .int .i64 0, .slice none 0 0, .slice none 0 0, .slice none 0 0, .slice none 0 0, .bool false] 58)).setRow wr.heap.size (rarr r y) = w6 := ⟨_, rfl⟩
      simp only [hw6, Act.put]
      rw [World.setRow_alloc_new] at hw6
      obtain ⟨BS, hBS⟩ : ∃ BS, wr.heap.size = BS := ⟨_, rfl⟩
      simp only [hBS]
      have HB6 := hid (show Below wr.heap.size wr w6 by rw [← hw6]; exact (Below.refl wr.heap.size wr).alloc (Nat.le_refl _) _)
      have HX6 := hid (show RBox BS r y w6 by rw [← hBS, ← hw6]; exact heap_alloc_new wr _)
      have HS6 := hid (HS.out.on HB6.out)
      have HW6 := hid (HW.out.on HB6.out)
      clear hw6 hBS hz HW z0 z1 z2 z3 z4 z5 z6 z7 z8 z9 z10 z11 z12 z13 z14 z15 z16
      have x9 := rbox_cell HX6.out 9 (v := .int .i64 r.x.frm) rfl
      by_cases hfr : r.x.frm = node
      · have t1 : (r.x.frm == node) = true := by simpa using hfr
        have HFr := hid hfr
        have HCl := hid (clone_any r y w6 HW6.out Hnm.out Hfw.out)
        clear hfr
        go_upto_region 6 with fail
        go_wp2_with (first
          | (with_reducible refine load_rule HX6.out rfl _ rfl (by go_simp) ?_)
          | (go_at_call 33; (with_reducible refine HCl.out.mono ?_); rintro e1 w7 ⟨y', rfl, hln, hOw, hb7⟩; have HS7 := hid (HS6.out.on hb7); have HOw := hid hOw; have Hln := hid hln; have HB7 := hid hb7; clear hln hOw hb7; simp only [rarr])
          | (at_builtin; refine wpList_append_own _ rfl _ _ 40 rfl w.heap.size 58 i5 (.agg #[.string ⟨#[]⟩, .int .i64 0, .int .u32 0, .int .i64 0, .int .u32 0, .int .i64 0, .int .i64 0, .int .i64 0, .int .i64 0, .int .i64 0, .int .i64 0, .int .i64 0, .slice none 0 0, .slice none 0 0, .slice none 0 0, .slice none 0 0, .bool false]) 17 208 Try.underlying40 Ai.out Az0.out Az1.out Az2.out rfl (by decide) _ _ _ rfl (own_below (HPl.out ▸ HS7.out.own) (Below.alloc (Below.refl _ _) (Nat.le_refl _) _)) ⟨w7.heap.size, 0, none⟩ 1 1 (rarr r y').toList rfl rfl (new_row (by rfl)) (by simp [rarr, Value.oneCell']) (by unfold maxLen; omega) (by omega) (by have := HS7.out.bel.size; simp; omega) ?_; intro v9 w9 hown9 hg9 _; obtain ⟨A9, c9, rfl⟩ := own_form hown9; have HS9 := hid (HS7.out.put (y := y') Hri.out HFr.out ⟨HOw.out.less HS6.out.bel.size, y, HW0.out, Hln.out⟩ (by rw [HPl.out]; exact hown9) hg9); clear hown9 hg9))
        go_roundw
        case rel => exact ⟨i + 1, _, A9, m + 1, c9, rfl, by omega, by go_num, by omega, (by show _ = _; rw [List.length_append, HPl.out]; rfl), HS9⟩
        case measure => simp [intOf]; omega
      · have t1 : (r.x.frm == node) = false := by simpa using hfr
        have HS9 := hid (HS6.out.skip Hri.out hfr)
        clear hfr
        go_wp2_with fail
        go_roundw
        case rel => exact ⟨i + 1, ps, A1, m, c1, rfl, by omega, by go_num, by omega, HPl, HS9⟩
        case measure => simp [intOf]; omega
    · obtain rfl : i = n := by omega
      have hl : rs.length = i := by rw [← Hrs.out, List.length_map]; exact Hlen.out
      have HS2 : Hid (AtSt w node rs rs.length (.slice A1 m c1) ps wr) := by rw [hl]; exact HS
      clear hl HS
      by_cases h0 : m = 0
      · subst h0
        have hps : ps = [] := List.length_eq_zero_iff.1 HPl.out
        subst hps
        have hv : Value.slice A1 0 c1 = .slice none 0 0 := HS2.out.non rfl
        simp only [Value.slice.injEq] at hv
        obtain ⟨rfl, -, rfl⟩ := hv
        go_wp2_with (first | (go_at_call 34; (with_reducible refine (HN0.out _).mono ?_); rintro _ _ ⟨rfl, rfl⟩))
        go_ret
        refine ⟨none, 0, [], rfl, ?_, ⟨rfl, Nat.le_refl _, fun _ => ⟨rfl, rfl⟩, fun h => by simp at h, fun q hq => by cases hq⟩, HS2.out.bel⟩
        have := HS2.out.map
        rw [List.take_length] at this
        unfold atS
        rw [← this]
        rfl
      · have hpl2 : ps.length = m := HPl.out
        subst hpl2
        obtain ⟨g, hA1, hc'⟩ : ∃ g, A1 = some ⟨g, 0, none⟩ ∧ ps.length ≤ c1 := by
          rcases HS2.out.own.2 with ⟨_, h1⟩ | ⟨g, cap, cur, h1, _, _, h2, _⟩
          · omega
          · simp only [Value.slice.injEq] at h1
            exact ⟨g, h1.1, by omega⟩
        subst hA1
        obtain ⟨hH, hbg, cs, hgc⟩ := holds_row HS2.out.own (by omega)
        have hcc := sortStable_any (tg := tgT) elt_T 35 #[] cmp_T c1 (tagA ps) wr hH (pst_lt hgc) (by rw [tagA_size]; omega) (tagA_ris ps)
        rw [tagA_size] at hcc
        have HCC := hid hcc
        have Hc := hid hc'
        have H0 := hid h0
        clear hcc hH hbg hgc hc' h0
        go_wp2_with (first | (go_at_call 34; (with_reducible refine HCC.out.mono ?_); rintro e1 w8 ⟨rfl, d', hS8, hp8, ho8⟩))
        go_ret
        obtain ⟨ps', h1, h2, h3, h4⟩ := sort_row HS2.out (by have := H0.out; omega) Hc.out hS8 (by rw [tagA_size]; exact hp8) (by rw [tagA_size]; exact ho8)
        exact ⟨some ⟨g, 0, none⟩, c1, ps', by rw [h1]; rfl, h2, by rw [h1]; exact h3, h4⟩
end Go.Proofs.Ythoblabimkfjpaa
