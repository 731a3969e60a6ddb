/- TlvTorn. -/
import Derived.Test.YtddddfcalknmlaaTlK
import Derived.Test.YtddddfcalknmlaaTlO
namespace Go.Proofs.Ytddddfcalknmlaa
open Go.RowKit
set_option maxHeartbeats 6400000
set_option maxRecDepth 100000
theorem Try.info3 : (Try.prog.info? 3).map (fun i => (i.zero, i.size, i.bytes)) = some (some (.int .i64 0), 1, 8) := by kernel_rfl
def sz (x : Int) : Nat := (x % 32).toNat
theorem sz_eq (x : Int) : x % 32 = (sz x : Nat) := by unfold sz; omega
theorem sz_lt (x : Int) : sz x < 32 := by unfold sz; omega
def tl (ns : List Int) : List Itm := ns.map fun x => ⟨7, List.replicate (sz x) 0⟩
theorem tl_len (ns : List Int) : (tl ns).length = ns.length := by simp [tl]
theorem tl_types (ns : List Int) : typesOk (tl ns) = true := by
  induction ns with
  | nil => rfl
  | cons a r ih => simp only [tl, List.map_cons, typesOk] at *; rw [ih]; simp
theorem tl_lens (ns : List Int) : lensOk (tl ns) = true := by
  induction ns with
  | nil => rfl
  | cons a r ih =>
    have := sz_lt a
    simp only [tl, List.map_cons, lensOk] at *
    rw [ih]; simp; omega
/-- Where the k-th item ends. -/
def ed (ns : List Int) (k : Nat) : Nat := (putI ((tl ns).take k)).length
theorem ed_zero (ns : List Int) : ed ns 0 = 0 := by simp [ed, putI]
theorem ed_succ {ns : List Int} {k : Nat} {x : Int} (h : ns[k]? = some x) : ed ns (k + 1) = ed ns k + 3 + sz x := by
  unfold ed
  rw [putI_take (l := tl ns) (k := k) (e := ⟨7, List.replicate (sz x) 0⟩) (by simp [tl, h]), List.length_append, List.length_append]
  simp; omega
theorem ed_end (ns : List Int) : ed ns ns.length = (putI (tl ns)).length := by
  unfold ed; rw [List.take_of_length_le (by rw [tl_len]; omega)]
theorem ed_le (ns : List Int) : ∀ k, ed ns k ≤ k * 34
  | 0 => by rw [ed_zero]; omega
  | k + 1 => by
    have ih := ed_le ns k
    cases h : ns[k]? with
    | some x => have := sz_lt x; rw [ed_succ h]; omega
    | none =>
      have : (tl ns).take (k + 1) = (tl ns).take k := by
        rw [List.take_add_one, List.getElem?_eq_none (by rw [tl_len]; exact List.getElem?_eq_none_iff.1 h)]; simp
      unfold ed at *; rw [this]; omega
theorem ed_mono {ns : List Int} {i j : Nat} (h : i < j) (hj : j ≤ ns.length) : ed ns i < ed ns j := by
  induction j with
  | zero => omega
  | succ j ih =>
    have hx : ns[j]? = some (ns[j]'(by omega)) := List.getElem?_eq_getElem (by omega)
    rw [ed_succ hx]
    rcases Nat.lt_or_ge i j with h1 | h1
    · have := ih h1 (by omega); omega
    · obtain rfl : i = j := by omega
      omega
def ecells (ns : List Int) (k : Nat) : List Value := (List.range k).map fun j => .int .i64 (ed ns j : Nat)
theorem ecells_succ (ns : List Int) (k : Nat) : ecells ns (k + 1) = ecells ns k ++ [.int .i64 (ed ns k : Nat)] := by simp [ecells, List.range_succ]
theorem ecells_at {ns : List Int} {k j : Nat} (h : j < k) : (ecells ns k)[j]? = some (.int .i64 (ed ns j : Nat)) := by simp [ecells, h]
theorem RNum.below {w w' : World} {B n : Nat} {A : Option Addr} {l : List Int} (h : RNum w B A n l) (hb : Below B w w') : RNum w' B A n l := by
  refine ⟨h.1, h.2.1, fun hn => ?_⟩
  obtain ⟨b, off, hA, hB, hc⟩ := h.2.2 hn
  exact ⟨b, off, hA, hB, fun i e he => (hb.cell (p := ⟨b, _, none⟩) hB).trans (hc i e he)⟩
theorem torn_app {w2 w4 : World} {B j s g : Nat} {v : Value} {xs : List Value} {ns : List Int} {x : Int} {o : Obj} (hx : ns[j]? = some x) (hs : sz x = s) (hj : j < ns.length) (hown : w2.ownsRow B 26 2 v j xs) (hoi : OItm w2 B xs ((tl ns).take j))
    (hd : w2.ownsRow B 5 1 (.slice (some ⟨g, 0, none⟩) s s) s (bcells (List.replicate s 0))) (hg : (w2.alloc o).grownBy w4 v.ownBlock) : OItm w4 B (xs ++ [.int .i64 7, .slice (some ⟨g, 0, none⟩) s s]) ((tl ns).take (j + 1)) := by
  have he : (tl ns)[j]? = some ⟨7, List.replicate s 0⟩ := by simp [tl, hx, hs]
  rw [List.take_add_one, he]
  have hl : (List.replicate s (0 : UInt8)).length = s := by simp
  have h := hoi.snoc (e := ⟨7, List.replicate s 0⟩) (D := some ⟨g, 0, none⟩) (c := s) (by rw [hown.1, List.length_take, tl_len]; omega) (by show w2.ownsRow B _ 1 (.slice _ (List.replicate s (0 : UInt8)).length s) (List.replicate s (0 : UInt8)).length _; rw [hl]; exact hd)
  have h2 := (h.below ((Below.refl _ _).alloc (Nat.le_refl _) o)).kept (hown.alloc o) (by decide) hg
  rw [show (⟨7, List.replicate s 0⟩ : Itm).data.length = s from hl] at h2
  exact h2
theorem end_at {w : World} {B g k c : Nat} {ns : List Int} (h : w.ownsRow B 3 1 (.slice (some ⟨g, 0, none⟩) k c) k (ecells ns k)) {j : Nat} (hj : j < k) : w.cell? ⟨g, j, none⟩ = some (.int .i64 (ed ns j : Nat)) := by
  have := h.cells (g := g) rfl j _ (ecells_at hj)
  rwa [Go.WideShapes.add_plain, Nat.zero_add] at this
theorem torn_out (A : Option Addr) (n c : Nat) (k : Int) (w : World) (h : 20 < n ∨ k < 0) :
    Calls Try.prog 6 #[.slice A n c, .int .i64 k] w fun e w' => e = .returned (.bool true) ∧ Below w.heap.size w w' := by
  rcases (show decide ((20 : Int) < n) = true ∨ (decide ((20 : Int) < n) = false ∧ decide (k < 0) = true) by simp only [decide_eq_true_eq, decide_eq_false_iff_not]; omega) with h1 | ⟨h1, h2⟩ <;>
  · clear h
    go_enter Try.func6, Try.ntmps6
    go_wp2_with (go_at_call 7; (with_reducible refine (alive_any _).mono ?_); rintro e' w1 ⟨rfl, hb1⟩)
    go_ret
    exact ⟨rfl, hb1⟩
theorem torn_in (A : Option Addr) (n c : Nat) (ns : List Int) (k : Nat) (w : World) (hr : RNum w w.heap.size A n ns) (hn : n ≤ 20) :
    Calls Try.prog 6 #[.slice A n c, .int .i64 k] w fun e w' => e = .returned (.bool true) ∧ Below w.heap.size w w' := by
  have t1 : decide ((20 : Int) < (n : Int)) = false := by simp; omega
  have t2 : decide ((k : Int) < 0) = false := by simp
  obtain ⟨i5, hi, hz0, hz1, hz2⟩ := info_parts Try.info5
  have Ai := hid hi; have Az0 := hid hz0; have Az1 := hid hz1; have Az2 := hid hz2
  clear hi hz0 hz1 hz2
  obtain ⟨i6, hi, hz0, hz1, hz2⟩ := info_parts Try.info26
  have Bi := hid hi; have Bz0 := hid hz0; have Bz1 := hid hz1; have Bz2 := hid hz2
  clear hi hz0 hz1 hz2
  obtain ⟨i7, hi, hz0, hz1, hz2⟩ := info_parts Try.info3
  have Ci := hid hi; have Cz0 := hid hz0; have Cz1 := hid hz1; have Cz2 := hid hz2
  clear hi hz0 hz1 hz2
  have HR := hid hr
  have Hl := hid hr.1
  clear hr
  go_enter Try.func6, Try.ntmps6
  go_wp2_with (go_at_call 7; (with_reducible refine (alive_any _).mono ?_); rintro e' w1 ⟨rfl, hb1⟩)
  have hs1 := hb1.size
  go_loopw [6, 7, 8] (fun v u i wr => ∃ (j g cu : Nat) (xs : List Value), j ≤ n ∧ i = .int .i64 j ∧ wr.ownsRow w1.heap.size 26 2 v j xs ∧ Hid (OItm wr w1.heap.size xs ((tl ns).take j)) ∧ u = .slice (some ⟨g, 0, none⟩) (j + 1) cu ∧ wr.ownsRow w1.heap.size 3 1 (.slice (some ⟨g, 0, none⟩) (j + 1) cu) (j + 1) (ecells ns (j + 1)) ∧ Below w1.heap.size w1 wr) (fun _ _ i _ => n - (intOf i).toNat)
  case atStart =>
    refine ⟨0, w1.heap.size, 1, [], Nat.zero_le _, rfl, World.ownsRow_nil _ _ _ _, OItm.nil _ _, rfl, ?_, (Below.refl _ _).alloc (Nat.le_refl _) _⟩
    have h := World.ownsRow_lit (e := 3) (size := 1) (base := w1.heap.size) w1 #[.int .i64 0] 1 (Nat.le_refl _) (by unfold maxLen; omega) rfl
    exact h
  case round =>
    obtain ⟨j, g, cu, xs, hj, rfl, hown, HOI, rfl, hend, hbel⟩ := hrel
    have hs := hbel.size
    by_cases hlt : j < n
    · obtain ⟨x, hx⟩ : ∃ x, ns[j]? = some x := ⟨ns[j]'(by rw [Hl.out]; omega), List.getElem?_eq_getElem _⟩
      obtain ⟨b, off, rfl, hb, hc⟩ := (HR.out.below (hb1.trans (hbel.mono hs1))).2.2 (by omega)
      have c0 := hc j x hx
      have m31 : bits .and .i64 x 31 = x % 32 := i64_mask_any 5 (by decide) 31 (by decide) x
      have Hx := hid hx
      obtain ⟨s, hsx⟩ : ∃ s, sz x = s := ⟨_, rfl⟩
      have hsl := sz_lt x
      rw [sz_eq, hsx] at m31
      rw [hsx] at hsl
      have Hsx := hid hsx
      have Hrep := hid (made_zero s)
      clear hc hx hsx
      go_wp2_with (first
        | (at_make; refine wpList_make_full _ rfl (.tmp 40) (.tmp 40) 23 rfl w1.heap.size 5 i5 (.int .u8 0) 1 Try.underlying23 Ai.out Az0.out Az1.out _ _ _ _ s rfl rfl rfl rfl (by rw [Az2.out]; omega) (by unfold maxLen; omega) hs ?_; intro w2 hown2 hg2; have hb2 : Below wr.heap.size wr w2 := grown_below hg2; (rw [Hrep.out] at hown2); have HO := hid hown2; have hv2 := own_below hown hb2; have he2 := own_below hend hb2; have HI2 := hid (HOI.out.below hb2); have hs2 := hb2.size; clear hown2 hg2)
        | (at_builtin; refine wpList_append_own _ rfl (.tmp 35) (.tmp 43) 22 rfl w1.heap.size 26 i6 (.agg #[.int .i64 0, .slice none 0 0]) 2 32 Try.underlying22 Bi.out Bz0.out Bz1.out Bz2.out rfl (by decide) _ _ _ rfl (hv2.alloc _) ⟨w2.heap.size, 0, none⟩ 1 1 [.int .i64 7, .slice (some ⟨wr.heap.size, 0, none⟩) s s] rfl rfl (new_row rfl) (itm_row _ _ _ _) (by unfold maxLen; omega) (by omega) (by simp; omega) ?_; intro v4 w4 hown4 hg4 _))
      have hx4 := hv2.1
      have hoi4 := torn_app (ns := ns) Hx.out Hsx.out (by rw [Hl.out]; exact hlt) hv2 HI2.out HO.out hg4
      have he4 := (he2.alloc (.cells #[.int .i64 7, .slice (some ⟨wr.heap.size, 0, none⟩) s s] 26)).kept hg4 (own_apart he2 hv2 (by decide))
      have hb4 : Below w1.heap.size w1 w4 := (hbel.trans (hb2.mono hs)).trans (Below.grown ((Below.refl _ _).alloc (by omega) _) hg4 (by simp; omega) (fun q hq => (hv2.lt q hq).1))
      have HOI4 := hid hoi4
      have HE4 := hid he4
      have hs4 := hb4.size
      have c0' := ((hb1.trans (hb4.mono hs1)).cell (p := ⟨b, off + j, none⟩) hb).trans (((hb1.trans (hbel.mono hs1)).cell (p := ⟨b, off + j, none⟩) hb).symm.trans c0)
      have d0 : w4.cell? ⟨g, j, none⟩ = some (.int .i64 (ed ns j : Nat)) := by
        have := he4.cells (g := g) rfl j _ (ecells_at (by omega))
        rwa [Go.WideShapes.add_plain, Nat.zero_add] at this
      have hel := ed_le ns j
      obtain ⟨E, hE⟩ : ∃ E, ed ns j = E := ⟨_, rfl⟩
      have HEd := hid hE
      rw [hE] at d0 hel
      clear c0 hoi4 hg4 hx4 hE he2 he4 hb2 hv2 HI2 HO hend hown
      have hown := hown4
      clear hown4
      go_wp2_with fail
      have ej : (j : Int) < (j : Int) + 1 := by omega
      have e1 : IntKind.i64.wrap ((E : Int) + 3) = (E : Int) + 3 := IntWalk.i64_in _ (by omega)
      have e2 : IntKind.i64.wrap ((E : Int) + 3 + (s : Int)) = (E : Int) + 3 + (s : Int) := IntWalk.i64_in _ (by omega)
      have hend2 : w4.drew.ownsRow w1.heap.size 3 1 (.slice (some ⟨g, 0, none⟩) (j + 1) cu) (j + 1) (ecells ns (j + 1)) := HE4.out
      go_region_held3 (fun w' => w'.cell? ⟨g, j, none⟩ = some (.int .i64 (E : Int)) ∧ w'.cell? ⟨b, off + j, none⟩ = some (.int .i64 x))
        (first
          | go_keep
          | exact hk4)
        (first
          | ((refine step_append_keeps (by rfl) (.tmp 45) (.tmp 57) 46 (by rfl) w1.heap.size 3 i7 (.int .i64 0) 1 8 Try.underlying46 Ci.out Cz0.out Cz1.out Cz2.out rfl (by decide) (.slice (some ⟨g, 0, none⟩) (j + 1) cu) (j + 1) (ecells ns (j + 1)) (by rfl) (hend2.alloc _) ⟨w4.heap.size, 0, none⟩ 1 1 [.int .i64 ((E : Int) + 3 + (s : Int))] (by rfl) (by rfl) (new_row (w := w4.drew) (by rfl)) (by intro u hu; simp at hu; subst hu; rfl) (by decide) (by unfold maxLen; clear e1 e2 m31; omega) (by clear e1 e2 m31; omega) (by clear e1 e2 m31; simp; omega) ?_; intro g5 c5 w5 hend5 hg5 hk5; have hb5 := below_app4 HE4.out hs4 hg5; have hk6 := hk5 g rfl j _ (ecells_at (by clear e1 e2 m31; omega)); (rw [HEd.out] at hk6); have hk4 : w5.cell? ⟨g, j, none⟩ = some (.int .i64 (E : Int)) ∧ w5.cell? ⟨b, off + j, none⟩ = some (.int .i64 x) := ⟨hk6, (hb5.cell (p := ⟨b, off + j, none⟩) (by show b < w1.heap.size; clear e1 e2 m31; omega)).trans c0'⟩)))
      clear e1 e2 ej m31
      go_wp2_with fail
      go_roundw
      case rel =>
        refine ⟨j + 1, g5, c5, _, by omega, by go_num, (World.ownsRow.alloc (w := w4.drew) hown _).kept hg5 (own_apart hown HE4.out (by decide)), ?_, rfl, ?_, hb4.trans hb5⟩
        · exact (OItm.below (w := w4.drew) HOI4.out ((Below.refl _ _).alloc (Nat.le_refl _) _)).kept (hend2.alloc _) (by decide) hg5
        · rw [ecells_succ, ed_succ Hx.out, HEd.out, Hsx.out]; exact hend5
      case measure => simp [intOf]; omega
    · obtain rfl : j = n := by omega
      have htl : (tl ns).length = j := by rw [tl_len, Hl.out]
      have hoi := HOI.out
      rw [List.take_of_length_le (by omega)] at hoi
      have hown' := hown
      rw [← htl] at hown'
      obtain ⟨Al, cl, rfl, hrl, _⟩ := own_itm hown' hoi
      rw [htl] at hrl
      obtain ⟨M, hM⟩ : ∃ M, (putI (tl ns)).length = M := ⟨_, rfl⟩
      have hMe : ed ns j = M := by rw [← hM, ← Hl.out, ed_end]
      have hMl := ed_le ns j
      rw [hMe] at hMl
      have d0 : wr.cell? ⟨g, j, none⟩ = some (.int .i64 (M : Nat)) := by
        have := hend.cells (g := g) rfl j _ (ecells_at (by omega))
        rwa [Go.WideShapes.add_plain, Nat.zero_add, hMe] at this
      have HP := hid (putI_yes (tl_types ns) (tl_lens ns) hM (put_any Al j cl (tl ns) wr hrl (by omega)))
      have b0 := hb1.trans (hbel.mono hs1)
      have Htl := hid htl
      have HM := hid hM
      have HEnd := hid hend
      have hgl := (hend.lt g rfl).2
      rw [htl]
      clear hown hown' hoi hrl hMe hM hend htl HOI
      obtain ⟨q, hq⟩ : ∃ q : Nat, (k : Int) % ((M : Int) + 1) = (q : Int) := ⟨k % (M + 1), by rw [Int.natCast_emod, Int.natCast_add]; rfl⟩
      have hqM : q ≤ M := by
        have := Int.emod_lt_of_pos (k : Int) (show (0 : Int) < (M : Int) + 1 by omega)
        omega
      have hM1 : (M : Int) + 1 ≤ 1000 := by omega
      go_wp2_with (first
        | (go_at_call 8; (with_reducible refine HP.out.mono ?_); rintro e' w3 ⟨A3, c3, rfl, hr3, hc3, hb3⟩; have HR3 := hid hr3; have d3 := (hb3.cell (p := ⟨g, j, none⟩) hgl).trans d0; have hq3 : (q : Int) ≤ (c3 : Int) := Int.ofNat_le.2 (Nat.le_trans hqM hc3); clear hr3)
        | (go_at_call 14; (with_reducible refine (num_any _ _).mono ?_); rintro e' w8 ⟨rfl, rfl⟩))
      rw [hq]
      clear hq
      have b3 := b0.trans (hb3.mono (Nat.le_trans hs1 hs))
      have hgl3 : g < w3.heap.size := by have := hb3.size; omega
      have HE3 := hid (fun i (hi : i < j + 1) => (hb3.cell (p := ⟨g, i, none⟩) hgl).trans (end_at HEnd.out hi))
      have hGe := get_any A3 q c3 _ w3 (HR3.out.take hqM) (by omega) (by omega)
      have hsz3 := b3.size
      have hmono := hid (fun (i i' : Nat) (h : i < i') (hi' : i' ≤ j) => ed_mono (ns := ns) h (by rw [Hl.out]; exact hi'))
      rcases getI_torn (tl_types ns) (tl_lens ns) q (by rw [HM.out]; exact hqM) with ⟨i0, hi0, hqi, hg⟩ | ⟨hno, hg⟩
      · have HG := hid (getI_yes hg hGe)
        rw [Htl.out] at hi0
        have hqe : ed ns i0 = q := hqi.symm
        rw [List.length_take, Htl.out, Nat.min_eq_left hi0] at HG
        have Hqe := hid hqe
        clear hg hGe hqi hqe d0 hM1
        refine HG.out.mono ?_
        rintro e' w4 ⟨A4, c4, rfl, _, hb4⟩
        have HE4 := hid (fun i (hi : i < j + 1) => (hb4.cell (p := ⟨g, i, none⟩) hgl3).trans (HE3.out i hi))
        have b4 := b3.trans (hb4.mono hsz3)
        go_wp2_with fail
        go_loopw [14] (fun i wr => ∃ y : Nat, y ≤ i0 ∧ i = .int .i64 y ∧ wr = w4) (fun i _ => j - (intOf i).toNat)
        case atStart => exact ⟨0, Nat.zero_le _, rfl, rfl⟩
        case round =>
          obtain ⟨y, hy, rfl, hww⟩ := hrel
          have hws := hww.symm
          subst hws
          clear hww
          have m0 := HE4.out y (by omega)
          have ey : (y : Int) < (j : Int) + 1 := by omega
          by_cases hyi : y = i0
          · subst hyi
            rw [Hqe.out] at m0
            go_wp2_with (go_at_call 14; (with_reducible refine (num_any _ _).mono ?_); rintro e' w8 ⟨rfl, rfl⟩)
            go_ret
            exact ⟨rfl, b4⟩
          · have hlt := hmono.out y i0 (by omega) hi0
            rw [Hqe.out] at hlt
            obtain ⟨z, hz⟩ : ∃ z, ed ns y = z := ⟨_, rfl⟩
            rw [hz] at m0 hlt
            have tz : ((z : Int) == (q : Int)) = false := by simp; omega
            clear hz
            go_wp2_with fail
            go_roundw
            case rel => exact ⟨y + 1, by omega, by go_num, by first | rfl | trivial⟩
            case measure => simp [intOf]; omega
      · have HG := hid (getI_no hg hGe)
        have Hno := hid hno
        clear hg hGe hno d0 hM1
        refine HG.out.mono ?_
        rintro e' w4 ⟨rfl, hb4⟩
        have HE4 := hid (fun i (hi : i < j + 1) => (hb4.cell (p := ⟨g, i, none⟩) hgl3).trans (HE3.out i hi))
        have b4 := b3.trans (hb4.mono hsz3)
        go_wp2_with fail
        go_loopw [14] (fun i wr => ∃ y : Nat, y ≤ j + 1 ∧ i = .int .i64 y ∧ wr = w4) (fun i _ => j + 1 - (intOf i).toNat)
        case atStart => exact ⟨0, Nat.zero_le _, rfl, rfl⟩
        case round =>
          obtain ⟨y, hy, rfl, hww⟩ := hrel
          have hws := hww.symm
          subst hws
          clear hww
          by_cases hyj : y < j + 1
          · have m0 := HE4.out y hyj
            have hne : q ≠ ed ns y := Hno.out y (by rw [Htl.out]; omega)
            have ey : (y : Int) < (j : Int) + 1 := by omega
            obtain ⟨z, hz⟩ : ∃ z, ed ns y = z := ⟨_, rfl⟩
            rw [hz] at m0 hne
            have tz : ((z : Int) == (q : Int)) = false := by simp; omega
            clear hz
            go_wp2_with fail
            go_roundw
            case rel => exact ⟨y + 1, by omega, by go_num, by first | rfl | trivial⟩
            case measure => simp [intOf]; omega
          · have ey : ¬ (y : Int) < (j : Int) + 1 := by omega
            have ey2 : ¬ y < j + 1 := hyj
            go_wp2_with (go_at_call 14; (with_reducible refine (num_any _ _).mono ?_); rintro e' w8 ⟨rfl, rfl⟩)
            go_ret
            exact ⟨rfl, b4⟩
theorem torn_any (A : Option Addr) (n c : Nat) (ns : List Int) (k : Int) (w : World) (hr : RNum w w.heap.size A n ns) :
    Calls Try.prog 6 #[.slice A n c, .int .i64 k] w fun e w' => e = .returned (.bool true) ∧ Below w.heap.size w w' := by
  by_cases h : 20 < n ∨ k < 0
  · exact torn_out A n c k w h
  · obtain ⟨k', rfl⟩ := Int.eq_ofNat_of_zero_le (show 0 ≤ k by omega)
    exact torn_in A n c ns k' w hr (by omega)
end Go.Proofs.Ytddddfcalknmlaa
