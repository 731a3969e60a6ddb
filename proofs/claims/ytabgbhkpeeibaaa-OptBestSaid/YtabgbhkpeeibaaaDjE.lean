/- spf.From. -/
import Derived.Test.YtabgbhkpeeibaaaDjD
import Derived.Deep.RegionHeld3
namespace Go.Proofs.Ytabgbhkpeeibaaa
open Go.RowKit
set_option maxHeartbeats 6400000
set_option maxRecDepth 100000
theorem from_not (nd : Int) (A : Option Addr) (n c : Nat) (l : List Lnk) (Ad : Option Addr) (n' c' : Nat) (dn : List Bool) (s : Int) (w : World) (hr : RLnk w w.heap.size A n l) (h : ¬((checkS nd l).2 = 0 ∧ 0 ≤ s ∧ s < nd)) :
    Calls Try.prog 49 #[.agg #[.int .i64 nd, .slice A n c], .slice Ad n' c', .int .i64 s] w (IntAns (fromS nd l dn s) w) := by
  have Q : fromS nd l dn s = [] := by unfold fromS; rw [if_neg h]
  rw [Q]
  have hS := Held.start w nd A n c
  have HK := hid (fun (w' : World) (h : Held w nd A n c w') => h.calls (hasNode_any nd A n c l s w' (h.on hr)))
  have hb : hasNodeS nd l s = false := by unfold hasNodeS; rw [decide_eq_false_iff_not]; exact h
  rw [hb] at HK
  obtain ⟨g0, g1⟩ := hS.cells
  clear hr h hb Q
  go_enter Try.func49, Try.ntmps49
  go_wp2_with (go_at_call 52; (with_reducible refine (HK.out _ hS).mono ?_); rintro e' w1 ⟨rfl, h1⟩; obtain ⟨g2, g3⟩ := h1.cells)
  go_ret
  exact ⟨_, rfl, World.ownsRow_nil _ _ _ _, h1.1⟩
theorem repeat_held {w : World} {N : Nat} {A : Option Addr} {n c : Nat} (hN0 : 1 ≤ N) (hN : N ≤ 40) (w2 : World) (h : Held w (N : Int) A n c w2) :
    Calls Try.prog 61 #[.slice (some ⟨w2.heap.size, 0, none⟩) 1 1, .int .i64 (N : Int)] (w2.alloc (.cells #[.int .i64 (-1)] 3)) fun e w' => ∃ G, e = .returned (.slice (some ⟨G, 0, none⟩) N N) ∧ IRow w' G (List.replicate N (-1)) ∧ w.heap.size < G ∧ Held w (N : Int) A n c w' := by
  have hb : Below w2.heap.size w2 (w2.alloc (.cells #[.int .i64 (-1)] 3)) := Below.alloc (Below.refl _ _) (Nat.le_refl _) _
  refine (repeat_any N w2.heap.size (-1) _ hN0 hN (by simp) ?_).mono ?_
  · rw [cell_of_row _ _ _ _ _ _ (heap_alloc_new w2 _)]; rfl
  · rintro e' w' ⟨G, rfl, hG, hR, hb'⟩
    have := h.lt
    exact ⟨G, rfl, hR, by simp at hG; omega, (h.next hb).next hb'⟩
/-- The state, and a row of edges that Out made. -/
structure DSo (w : World) (nd : Int) (A : Option Addr) (n c G hb : Nat) (d : List Int) (A7 : Option Addr) (mE c7 : Nat) (E : List Int) (T : HT) (w' : World) : Prop where
  st : DSt w nd A n c G hb d T w'
  own : w'.ownsRow 0 3 1 (.slice A7 mE c7) mE (icells E)
theorem DSo.next {w w' w'' : World} {nd : Int} {A : Option Addr} {n c G hb : Nat} {d : List Int} {A7 : Option Addr} {mE c7 : Nat} {E : List Int} {T : HT} (h : DSo w nd A n c G hb d A7 mE c7 E T w') (hb' : Below w'.heap.size w' w'') : DSo w nd A n c G hb d A7 mE c7 E T w'' :=
  ⟨h.st.next hb', own_below h.own hb'⟩
theorem DSo.drew {w w' : World} {nd : Int} {A : Option Addr} {n c G hb : Nat} {d : List Int} {A7 : Option Addr} {mE c7 : Nat} {E : List Int} {T : HT} (h : DSo w nd A n c G hb d A7 mE c7 E T w') : DSo w nd A n c G hb d A7 mE c7 E T w'.drew := h.next ((Below.refl _ _).drew)
theorem DSo.push {w w' : World} {nd : Int} {A : Option Addr} {n c G hb : Nat} {d : List Int} {A7 : Option Addr} {mE c7 : Nat} {E : List Int} {T : HT} (h : DSo w nd A n c G hb d A7 mE c7 E T w') (hc : T.cnt ≤ 900000) (x v : Int) : Calls Try.prog 62 #[.pointer (some ⟨hb, 0, none⟩), .int .i64 x, .int .i64 v] w' fun e w'' =>
    e = .returned (.tuple #[]) ∧ ∃ T', DSo w nd A n c G hb d A7 mE c7 E T' w'' ∧ T'.all.Perm ((x, v) :: T.all) := by
  refine (h.st.push hc x v).mono ?_
  rintro e' w'' ⟨rfl, T', hst, hp, hg⟩
  exact ⟨rfl, T', ⟨hst, h.own.kept hg (.inr (own_none h.own h.st.heap.1 (by decide)))⟩, hp⟩
theorem out_st {w w' : World} {nd : Int} {A : Option Addr} {n c G hb f : Nat} {d d' : List Int} {T : HT} {l : List Lnk} {node : Int} {E : List Int} {mE : Nat} {args : Array Value} (hE : outS l node (2 * l.length) = E) (hmE : E.length = mE) (hd : d = d') (hc : Calls Try.prog f args w' (OutAns l node w')) (h : DSt w nd A n c G hb d T w') :
    Calls Try.prog f args w' fun e w'' => ∃ A7 c7, e = .returned (.slice A7 mE c7) ∧ DSo w nd A n c G hb d' A7 mE c7 E T w'' := by
  refine hc.mono ?_
  rintro e' w'' ⟨v, rfl, hown, hb'⟩
  rw [hE, hmE] at hown
  obtain ⟨A', c', rfl, _, _⟩ := own_ints hown hmE
  subst hd
  exact ⟨A', c', rfl, h.next hb', own_mono hown (Nat.zero_le _)⟩
theorem from_in (nd : Nat) (A : Option Addr) (n c : Nat) (l : List Lnk) (Ad : Option Addr) (n' c' : Nat) (dn : List Bool) (s : Nat) (w : World) (hr : RLnk w w.heap.size A n l) (hd : RBl w w.heap.size Ad n' dn) (h : (checkS (nd : Int) l).2 = 0) (hs : s < nd) :
    Calls Try.prog 49 #[.agg #[.int .i64 (nd : Int), .slice A n c], .slice Ad n' c', .int .i64 (s : Int)] w (IntAns (fromS (nd : Int) l dn (s : Int)) w) := by
  have hg := gok_of h
  have Q : fromS (nd : Int) l dn (s : Int) = distS nd l dn s := by unfold fromS; rw [if_pos ⟨h, by omega, by omega⟩]; rfl
  rw [Q]
  have hS := Held.start w (nd : Int) A n c
  have HK := hid (fun (w' : World) (h : Held w (nd : Int) A n c w') => h.calls (hasNode_any (nd : Int) A n c l (s : Int) w' (h.on hr)))
  have hb : hasNodeS (nd : Int) l (s : Int) = true := by unfold hasNodeS; rw [decide_eq_true_iff]; exact ⟨h, by omega, by omega⟩
  rw [hb] at HK
  obtain ⟨g0, g1⟩ := hS.cells
  have hn : n ≤ 120 := by rw [← hr.1]; exact hg.1
  have hl := hr.1
  have hnd : nd ≤ 40 := hg.2.2.1
  have HRp := hid (fun (w2 : World) (h : Held w (nd : Int) A n c w2) => repeat_held hg.2.1 hnd w2 h)
  have HG := hid hg
  have HO := hid (fun (b : Nat) (w' : World) (h : Held w (nd : Int) A n c w') => out_any (nd : Int) A n c l (b : Int) w' (h.on hr) (by omega))
  have HDn := hid (fun (k : Nat) (hk : k < 240) (w' : World) (h : Held w (nd : Int) A n c w') => isDown2_any Ad n' c' dn k w' (hd.on h.1) (by omega))
  have HM := hid (fun (k : Nat) (hk : k < 2 * n) (w' : World) (h : Held w (nd : Int) A n c w') => metric_any (nd : Int) A n c l k w' (h.on hr) hk (by omega))
  have HE := hid (fun (k : Nat) (hk : k < 2 * n) (w' : World) (h : Held w (nd : Int) A n c w') => end_any (nd : Int) A n c l k w' (h.on hr) hk (by omega))
  have HD0 := hid (DInv.start (dn := dn) hg hs)
  clear hr hd h hb Q hg
  go_enter Try.func49, Try.ntmps49
  go_wp2_with (first
    | (go_at_call 52; (with_reducible refine (HK.out _ hS).mono ?_); rintro e' w1 ⟨rfl, h1⟩; obtain ⟨g2, g3⟩ := h1.cells; obtain ⟨g4, g5⟩ := (h1.next ((Below.refl _ _).alloc (Nat.le_refl _) (.cells #[.int .i64 (-1)] 3))).cells)
    | (go_at_call 61; (with_reducible refine (HRp.out _ h1).mono ?_); rintro e' w3 ⟨G, rfl, hR3, hG3, h3⟩; have HP := hid (DSt.push (T := .nil) ⟨hR3.on ((Below.refl _ _).alloc (Nat.le_refl _) _), heap_new w3, h3.next ((Below.refl _ _).alloc (Nat.le_refl _) _), hG3, by have := h3.lt; omega⟩ (by simp [HT.cnt]) 0 (s : Int)); clear hR3)
    | (go_at_call 62; (with_reducible refine HP.out.mono ?_); rintro e' w4 ⟨rfl, T1, hst1, hp1, _⟩; have HS1 := hid hst1; have HP1 := hid hp1; clear hst1 hp1))
  obtain ⟨hb, hhb⟩ : ∃ hb, w3.heap.size = hb := ⟨_, rfl⟩
  rw [hhb] at HS1
  simp only [hhb]
  have HD1 : Hid (DInv nd l dn s (List.replicate nd (-1)) T1.all []) := hid (HD0.out.perm (HP1.out.trans (by simp [HT.all])))
  have HC1 : Hid (T1.cnt ≤ 1 + lab (List.replicate nd (-1 : Int)) * 240) := by
    show _ ≤ _
    rw [perm_cnt HP1.out]; simp [HT.all]
  clear hhb HP HP1 HD0 HRp HK g0 g1 g2 g3 g4 g5 h3 hG3 h1 hS
  go_loopw [9, 10, 11] (fun _ _ _ wr => ∃ (d : List Int) (T : HT), Hid (DSt w (nd : Int) A n c G hb d T wr) ∧ Hid (DInv nd l dn s d T.all []) ∧ Hid (T.cnt ≤ 1 + lab d * 240)) (fun _ _ _ wr => potD nd wr G hb)
  case atStart => exact ⟨_, T1, HS1, HD1, HC1⟩
  case round =>
    obtain ⟨d, T, HSt, HDi, HCn⟩ := hrel
    obtain ⟨e0, e1⟩ := HSt.out.held.cells
    have hlabd : lab d ≤ 40 := by have := lab_le d; have h2 := HDi.out.len; omega
    cases T with
    | nil =>
      have HL := hid (HSt.out.len (p := 0) rfl)
      have HDD := hid (HDi.out.done)
      go_wp2_with (go_at_call 63; (with_reducible refine HL.out.mono ?_); rintro _ _ ⟨rfl, rfl⟩)
      go_ret
      exact ⟨_, rfl, by rw [distS_eq HG.out HDD.out, HDi.out.len]; exact HSt.out.row.owned HDi.out.len (Nat.le_of_lt HSt.out.g) (by unfold maxLen; omega), HSt.out.held.1⟩
    | node b0 x v m f =>
      obtain ⟨b, hbn, hvb, hx0, hx1, _, _⟩ := HDi.out.wait (x, v) (by simp [HT.all])
      simp only at hvb hx0 hx1
      subst hvb
      obtain ⟨p, hp⟩ : ∃ p, (HT.node b0 x (b : Int) m f).cnt = p := ⟨_, rfl⟩
      have hp0 : 0 < p := by rw [← hp, HT.cnt]; omega
      have hp1 : p ≤ 1 + lab d * 240 := hp ▸ HCn.out
      have HL := hid (HSt.out.len hp)
      have t0 : decide ((0 : Int) < (p : Int)) = true := by simp; omega
      have HPop := hid (HSt.out.pop (by rw [hp]; omega))
      have Hord := hid HSt.out.heap.2.2
      have HMS := hid (HSt.out.pot (N := nd))
      rw [hp] at HMS
      have Hlen := hid HDi.out.len
      have Gb := hid (dAt_get (d := d) (v := b) (by rw [Hlen.out]; exact hbn))
      have Hlow := HDi.out.low b hbn
      have Hle : Hid (∀ q ∈ m.all ++ f.all, x ≤ q.1) := fun q hq => by
        have := Hord.out.1 q hq
        unfold le2 at this; simp only at this; omega
      obtain ⟨db, hdb⟩ : ∃ db, dAt d (b : Int) = db := ⟨_, rfl⟩
      rw [hdb] at Gb Hlow
      have Hdb := hid hdb
      have Hp := hid hp
      clear hdb hp hx1
      by_cases hc : 0 ≤ db
      · have t1 : (db != -1) = true := by simp; omega
        go_wp2_with (first
          | (go_at_call 63; (with_reducible refine HL.out.mono ?_); rintro _ _ ⟨rfl, rfl⟩)
          | (go_at_call 64; (with_reducible refine HPop.out.mono ?_); rintro e' w5 ⟨rfl, T5, hst5, hp5⟩; have HS5 := hid hst5; have HP5 := hid hp5; have c5 := hst5.row.cell Gb.out; clear hst5 hp5))
        have HDi5 : Hid (DInv nd l dn s d T5.all []) := ((HDi.out.skip (b := b) (by rw [Hdb.out]; exact hc) hbn).perm HP5.out)
        have HCn5 : Hid (T5.cnt + 1 = p) := by
          show _ = _
          rw [perm_cnt HP5.out, ← Hp.out, List.length_append, HT.len, HT.len]; rfl
        go_roundw
        case rel => exact ⟨d, T5, HS5, HDi5, by show _ ≤ _; have := HCn5.out; omega⟩
        case measure => rw [HMS.out, HS5.out.pot]; have := HCn5.out; omega
      · have t1 : (db != -1) = false := by simp; omega
        obtain ⟨htk, hx2, hx3, hlab, hmax⟩ := HDi.out.take HG.out (b := b) (by rw [Hdb.out]; omega) hbn Hle.out
        obtain ⟨d', hd'⟩ : ∃ d', d.set b x = d' := ⟨_, rfl⟩
        obtain ⟨E, hE⟩ : ∃ E, outS l (b : Int) (2 * l.length) = E := ⟨_, rfl⟩
        obtain ⟨mE, hmE⟩ : ∃ mE, E.length = mE := ⟨_, rfl⟩
        have hmE2 : mE ≤ 2 * n := by rw [← hmE, ← hE, ← hl]; exact outS_len l b _
        have Hdb' : Hid (dAt d' (b : Int) = x) := by show _ = _; rw [← hd', dAt_set (by rw [Hlen.out]; exact hbn), if_pos rfl]
        rw [hd', hE] at htk
        rw [hd'] at hlab hmax
        have HTk := hid htk
        have Hmax := hid hmax
        have Hlab := hid hlab
        clear htk hmax hlab
        have HE2 := hid hE
        have HmE := hid hmE
        have Hd' := hid hd'
        clear hd' hE hmE
        go_wp2_with (first
          | (go_at_call 63; (with_reducible refine HL.out.mono ?_); rintro _ _ ⟨rfl, rfl⟩)
          | (go_at_call 64; (with_reducible refine HPop.out.mono ?_); rintro e' w5 ⟨rfl, T5, hst5, hp5⟩; have HP5 := hid hp5; have c5 := hst5.row.cell Gb.out; have f5 := hst5.row.frozen b; obtain ⟨q0, q1⟩ := (hst5.set (i := b) x).held.cells; have HO5 := hid (out_st HE2.out HmE.out Hd'.out (HO.out b _ (hst5.set (i := b) x).held) (hst5.set (i := b) x)); clear hst5 hp5)
          | (go_at_call 53; (with_reducible refine HO5.out.mono ?_); rintro e' w7 ⟨A7, c7, rfl, hst7⟩; have HS7 := hid hst7; clear hst7))
        have HDi7 : Hid (DInv nd l dn s d' T5.all (E.drop 0)) := by show DInv _ _ _ _ _ _ _; rw [List.drop_zero]; exact HTk.out.perm HP5.out
        have HC7 : Hid (T5.cnt + 1 ≤ p + 0) := by
          show _ ≤ _
          rw [perm_cnt HP5.out, ← Hp.out, List.length_append, HT.len, HT.len, HT.cnt]; omega
        clear c5 f5 q0 q1 e0 e1 HO5 HPop HL
        go_loopw [13, 44] (fun _ ii wx => ∃ (i : Nat) (T6 : HT), i ≤ mE ∧ ii = .int .i64 i ∧ Hid (DSo w (nd : Int) A n c G hb d' A7 mE c7 E T6 wx) ∧ Hid (DInv nd l dn s d' T6.all (E.drop i)) ∧ Hid (T6.cnt + 1 ≤ p + i)) (fun _ ii _ => mE - (intOf ii).toNat)
        case atStart => exact ⟨0, T5, Nat.zero_le _, rfl, HS7, HDi7, HC7⟩
        case round =>
          obtain ⟨i, T6, hi, rfl, HSx, HDx, HCx⟩ := hrel
          obtain ⟨y0, y1⟩ := HSx.out.st.held.cells
          by_cases hlt : i < mE
          · obtain ⟨ei, hei⟩ : ∃ ei, E[i]? = some ei := ⟨E[i]'(by rw [HmE.out]; exact hlt), List.getElem?_eq_getElem _⟩
            obtain ⟨k, rfl, hk, hf, _⟩ := row_next (HE2.out ▸ hei)
            obtain ⟨_, _, _, _, hR7⟩ := own_ints HSx.out.own HmE.out
            obtain ⟨b7, o7, rfl, hb7, hc7⟩ := hR7.2 (by omega)
            have cE := hc7 i _ hei
            have Hdrop : Hid (E.drop i = (k : Int) :: E.drop (i + 1)) := by
              show _ = _
              obtain ⟨hil, hie⟩ := List.getElem?_eq_some_iff.1 hei
              rw [List.drop_eq_getElem_cons hil, hie]
            have hk2 : k < 2 * n := by rw [← hl]; exact hk
            have HDk := hid (HDn.out k (by omega))
            cases hu : isDn dn (k / 2) with
            | true =>
              rw [hu] at HDk
              have HDj : Hid (DInv nd l dn s d' T6.all (E.drop (i + 1))) := DInv.shut (k := k) (Hdrop.out ▸ HDx.out) hu
              clear hu hei hc7
              go_wp2_with (go_at_call 54; (with_reducible refine (HDk.out _ HSx.out.st.held).mono ?_); rintro _ _ ⟨rfl, rfl⟩)
              go_roundw
              case rel => exact ⟨i + 1, T6, by omega, by go_num, HSx, HDj, by show _ ≤ _; have := HCx.out; omega⟩
              case measure => simp [intOf]; omega
            | false =>
              rw [hu] at HDk
              obtain ⟨a, b', xl, _, _, hfa, hto, hme, ha, hb', _, hm1, hm2⟩ := edge_facts HG.out hk
              obtain rfl : a = b := by rw [hf] at hfa; omega
              have HDj := hid (DInv.edge (k := k) (m := xl.m) (Hdrop.out ▸ HDx.out) hk hu hfa hto hme ha hb' hm1 hm2 Hdb'.out hx2 Hmax.out)
              have HMk := hid (HM.out k hk2)
              have HEk := hid (HE.out k hk2)
              rw [hme] at HMk
              rw [hto] at HEk
              obtain ⟨mm, hmm⟩ : ∃ mm, xl.m = mm := ⟨_, rfl⟩
              rw [hmm] at HMk HDj hm1 hm2
              have hwr : IntKind.i64.wrap (x + mm) = x + mm := by rw [IntKind.wrap_i64]; omega
              have hT6 : T6.cnt ≤ 900000 := by have := HCx.out; omega
              clear hu hei hc7 hfa hto hme hmm hf hk
              go_wp2_with (go_at_call 54; (with_reducible refine (HDk.out _ HSx.out.st.held).mono ?_); rintro _ _ ⟨rfl, rfl⟩)
              have HSd := hid HSx.out.drew
              obtain ⟨yd0, yd1⟩ := HSd.out.st.held.cells
              go_region_held3 (fun w' => w'.cell? ⟨w.heap.size, 0, none⟩ = some (.int .i64 (nd : Int)) ∧ w'.cell? ⟨w.heap.size, 1, none⟩ = some (.slice A n c))
                (first
                  | go_keep
                  | exact s10
                  | exact s9
                  | exact s8)
                (first
                  | (go_at_call 57; (with_reducible refine (HMk.out _ HSd.out.st.held).mono ?_); rintro e' w8 ⟨rfl, b8⟩; have st8 := HSd.out.next b8; have s8 := st8.st.held.cells; have HS8 := hid st8; clear st8)
                  | (go_at_call 56; (with_reducible refine (HEk.out _ HS8.out.st.held).mono ?_); rintro e' w9 ⟨rfl, b9⟩; have st9 := HS8.out.next b9; have s9 := st9.st.held.cells; have HPu := hid (st9.push hT6 (x + mm) (b' : Int)); clear st9)
                  | (go_at_call 62; (with_reducible refine HPu.out.mono ?_); rintro e' w10 ⟨rfl, T10, st10, hp10⟩; have s10 := st10.st.held.cells; have HS10 := hid st10; have HP10 := hid hp10; clear st10 hp10))
              have HDn10 : Hid (DInv nd l dn s d' T10.all (E.drop (i + 1))) := HDj.out.perm HP10.out
              have HC10 : Hid (T10.cnt = T6.cnt + 1) := by show _ = _; rw [perm_cnt HP10.out, List.length_cons, HT.len]
              clear hwr
              go_wp2_with fail
              go_roundw
              case rel => exact ⟨i + 1, T10, by omega, by go_num, HS10, HDn10, by show _ ≤ _; have := HCx.out; have := HC10.out; omega⟩
              case measure => simp [intOf]; omega
          · obtain rfl : i = mE := by omega
            have HDz : Hid (DInv nd l dn s d' T6.all []) := by
              have := HDx.out
              rw [List.drop_of_length_le (by rw [HmE.out]; omega)] at this
              exact this
            have hl2 := lab_le d'
            have hl3 := HDz.out.len
            have hl4 := Hlab.out
            have hl5 := HCx.out
            have HF : Hid (potD nd wr G hb = (nd - lab d') * 1000 + T6.cnt) := HSx.out.st.pot
            go_wp2_with fail
            go_roundw
            case rel => exact ⟨d', T6, HSx.out.st, HDz, by show _ ≤ _; omega⟩
            case measure => rw [HMS.out, HF.out]; omega
theorem from_spec : FromSpec 49 := by
  intro nd A n c l Ad n' c' dn s w hg hd _ _
  by_cases h : (checkS nd l).2 = 0 ∧ 0 ≤ s ∧ s < nd
  · obtain ⟨N, rfl⟩ := Int.eq_ofNat_of_zero_le (show 0 ≤ nd by omega)
    obtain ⟨S, rfl⟩ := Int.eq_ofNat_of_zero_le h.2.1
    exact from_in N A n c l Ad n' c' dn S w hg.row hd.row h.1 (by omega)
  · exact from_not nd A n c l Ad n' c' dn s w hg.row h
theorem to_spec : FromSpec 39 := by
  intro nd A n c l Ad n' c' dn s w hg hd hs1 hs2
  have hS := Held.start w nd A n c
  have HF := hid (from_spec nd A n c l Ad n' c' dn s _ (hg.on hS.1) (hd.on hS.1) hs1 hs2)
  obtain ⟨g0, g1⟩ := hS.cells
  obtain ⟨X, hX⟩ : ∃ X, fromS nd l dn s = X := ⟨_, rfl⟩
  rw [hX] at HF ⊢
  clear hg hd hX
  go_enter Try.func39, Try.ntmps39
  go_wp2_with (go_at_call 49; (with_reducible refine HF.out.mono ?_); rintro e' w1 ⟨v, rfl, hown, hb1⟩; have HO := hid hown; clear hown)
  go_ret
  exact ⟨_, rfl, own_mono HO.out (by simp), hS.1.trans (hb1.mono (by simp))⟩
end Go.Proofs.Ytabgbhkpeeibaaa
