/- Merged: CtN CtO. -/
import Derived.Test.YtkemcgbedapkcaaG34
import Derived.Test.YtkemcgbedapkcaaG13
/- compile.List; what the laws ask of it. -/
namespace Go.Proofs.Ytkemcgbedapkcaa
open Go.RowKit
set_option maxHeartbeats 25600000
set_option maxRecDepth 100000
theorem comp_res {N : Nat} {l : List Lnk} {x : Wnt} {dn : List Bool} {d : Int} (h : (costS (N : Int) l x dn).2 = 0) : compS N l x dn d = resS N l x (prunedS (N : Int) l x dn) (cutD d) := by
  unfold compS resS
  rw [if_neg (by rw [h]; decide)]
  cases leastS N l x (prunedS (N : Int) l x dn) (cutD d) (startS x) <;> rfl
theorem comp_err {N : Nat} {l : List Lnk} {x : Wnt} {dn : List Bool} {d : Int} (h : (costS (N : Int) l x dn).2 ≠ 0) : compS N l x dn d = ([], (costS (N : Int) l x dn).2) := by
  unfold compS
  rw [if_pos h]
/-- What List answers. -/
def ListAns (N : Nat) (l : List Lnk) (x : Wnt) (dn : List Bool) (d : Int) (w : World) (e : Ending) (w' : World) : Prop :=
  ∃ v, e = .returned (.tuple #[v, .int .i64 (compS N l x dn d).2]) ∧ w'.ownsRow 0 46 2 v (compS N l x dn d).1.length (scells2 (compS N l x dn d).1) ∧ Below w.heap.size w w'
theorem list_err (tp : Addr) (N : Nat) (l : List Lnk) (x : Wnt) (y : WSl) (Ad : Option Addr) (n' c' : Nat) (dn : List Bool) (d : Int) (w : World) (ht : TArgs w tp N l x y Ad n' c' dn) (hg : GOk N l) (hl16 : l.length ≤ 16) (h1 : y.nv ≤ 100) (h2 : y.nn ≤ 100) (h3 : y.nl ≤ 100) (h4 : y.nc ≤ 100) (k2 : Int) (hk2 : (costS (N : Int) l x dn).2 = k2) (hc : k2 ≠ 0) :
    Calls Try.prog 20 #[.pointer (some tp), .agg #[.int .i64 x.frm, .int .i64 x.too, .int .i64 x.bnd, .slice y.av y.nv y.cv, .slice y.an y.nn y.cn, .slice y.al y.nl y.cl, .slice y.ac y.nc y.cc], .slice Ad n' c', .int .i64 d] w (ListAns N l x dn d w) := by
  have hb0 : Below w.heap.size w (w.alloc (.cells #[.int .i64 x.frm, .int .i64 x.too, .int .i64 x.bnd, .slice y.av y.nv y.cv, .slice y.an y.nn y.cn, .slice y.al y.nl y.cl, .slice y.ac y.nc y.cc] 58)) := (Below.refl _ _).alloc (Nat.le_refl _) _
  have HF := hid (eFind_err tp N l x y Ad n' c' dn _ (ht.on hb0) hg hl16 h1 h2 h3 h4 k2 hk2 hc)
  obtain ⟨z0, z1, z2, z3, z4, z5, z6⟩ := box7_cells (heap_alloc_new w (.cells #[.int .i64 x.frm, .int .i64 x.too, .int .i64 x.bnd, .slice y.av y.nv y.cv, .slice y.an y.nn y.cn, .slice y.al y.nl y.cl, .slice y.ac y.nc y.cc] 58))
  have d1 : (k2 != 0) = true := bne_iff_ne.2 hc
  have HR := hid (comp_err (d := d) (show (costS (N : Int) l x dn).2 ≠ 0 by rw [hk2]; exact hc))
  rw [hk2] at HR
  have HB := hid hb0
  clear ht hk2 hc hb0
  go_enter Try.func20, Try.ntmps20
  go_wp2_with (first
    | (go_at_call 30; (with_reducible refine HF.out.mono ?_); rintro e' w3 ⟨rfl, hb3⟩; have HB3 := hid (HB.out.trans (hb3.mono HB.out.size)); clear hb3))
  refine bodyPost_ret (results_tmp2 rfl _ _ _) rfl ?_
  refine ⟨.slice none 0 0, by rw [HR.out]; rfl, ?_, HB3.out.alloc HB3.out.size _⟩
  rw [HR.out]; exact World.ownsRow_nil _ _ _ _
theorem links_at {w : World} {A : Option Addr} {n c : Nat} {l : List Lnk} (h : w.ownsRow 0 49 4 (.slice A n c) n (lcells l)) (hl : l.length = n := by rfl) : RLnk w w.heap.size A n l := by
  obtain ⟨A', c', he, hc, hr⟩ := own_lnks h hl
  simp only [Value.slice.injEq] at he
  obtain ⟨rfl, _, rfl⟩ := he
  exact hr
theorem cut_min (d : Int) : min (max d 0) 10 = (cutD d : Int) := by
  unfold cutD
  split
  · omega
  · split <;> omega
theorem list_ok (tp : Addr) (N : Nat) (l : List Lnk) (x : Wnt) (y : WSl) (Ad : Option Addr) (n' c' : Nat) (dn : List Bool) (d : Int) (w : World) (ht : TArgs w tp N l x y Ad n' c' dn) (hg : GOk N l) (hN : N ≤ 10) (hl16 : l.length ≤ 16) (h1 : y.nv ≤ 100) (h2 : y.nn ≤ 100) (h3 : y.nl ≤ 100) (h4 : y.nc ≤ 100) (_hd : In64 d) (hc : (costS (N : Int) l x dn).2 = 0) :
    Calls Try.prog 20 #[.pointer (some tp), .agg #[.int .i64 x.frm, .int .i64 x.too, .int .i64 x.bnd, .slice y.av y.nv y.cv, .slice y.an y.nn y.cn, .slice y.al y.nl y.cl, .slice y.ac y.nc y.cc], .slice Ad n' c', .int .i64 d] w (ListAns N l x dn d w) := by
  have hr := cost_right hc
  obtain ⟨hck, hpv, hv4⟩ := right_ok hr
  obtain ⟨gn, hgn⟩ : ∃ gn, prunedS (N : Int) l x dn = gn := ⟨_, rfl⟩
  obtain ⟨kk, hkk⟩ : ∃ kk, x.via.length = kk := ⟨_, rfl⟩
  have hb0 : Below w.heap.size w (w.alloc (.cells #[.int .i64 x.frm, .int .i64 x.too, .int .i64 x.bnd, .slice y.av y.nv y.cv, .slice y.an y.nn y.cn, .slice y.al y.nl y.cl, .slice y.ac y.nc y.cc] 58)) := (Below.refl _ _).alloc (Nat.le_refl _) _
  have hx0 := heap_alloc_new w (.cells #[.int .i64 x.frm, .int .i64 x.too, .int .i64 x.bnd, .slice y.av y.nv y.cv, .slice y.an y.nn y.cn, .slice y.al y.nl y.cl, .slice y.ac y.nc y.cc] 58)
  have HF := hid (eFind_ok tp N l x y Ad n' c' dn _ (ht.on hb0) hg hl16 h1 h2 h3 h4 hc gn hgn kk hkk)
  have HR := hid (comp_res (d := d) hc)
  rw [hgn] at HR
  have HS1 := hid (alloc_sz (o := (.cells #[.int .i64 x.frm, .int .i64 x.too, .int .i64 x.bnd, .slice y.av y.nv y.cv, .slice y.an y.nn y.cn, .slice y.al y.nl y.cl, .slice y.ac y.nc y.cc] 58)) (rfl : w.heap.size = w.heap.size))
  have HX0 := hid hx0
  have HB0 := hid hb0
  have HTw := hid (fun W (hb : Below w.heap.size w W) => ht.on hb)
  have HG := hid (fun W (hb : Below w.heap.size w W) => tgraph3_any (ht.on hb).1 hg)
  obtain ⟨z0, z1, z2, z3, z4, z5, z6⟩ := box7_cells hx0
  obtain ⟨e, he⟩ : ∃ e, cutD d = e := ⟨_, rfl⟩
  have hce := cutD_le d
  rw [he] at HR hce
  have hmin := cut_min d
  rw [he] at hmin
  clear ht hb0 hx0
  go_enter Try.func20, Try.ntmps20
  go_wp2_with (first
    | (go_at_call 30; (with_reducible refine HF.out.mono ?_); rintro e' w3 ⟨A3, c3, Ap, cp, Ag, cg, Df, cf, s3, M, rfl, hgw3, hb3, hM3⟩; have HB3 := hid (HB0.out.trans (hb3.mono HB0.out.size)); have HX3 := hid (box_below HX0.out hb3 (blk_lt HX0.out)); have HGW3 := hid hgw3; have HM : Hid (w.heap.size < M) := (by show w.heap.size < M; have h9 := HS1.out; omega); clear hb3 hgw3 hM3))
  have hba : Below w3.heap.size w3 (w3.alloc (.cells #[.pointer (some tp), .int .i64 (N : Int), .slice A3 l.length c3, .slice Ap (kk + 2) cp, .slice Ag l.length cg, .slice Df (kk + 1) cf, .int .i64 s3, .map (some M)] 82)) := (Below.refl _ _).alloc (Nat.le_refl _) _
  have HBd := hid ((HB3.out.trans (hba.mono HB3.out.size)).drew)
  have HXd := hid (box_below HX3.out (hba.drew) (blk_lt HX3.out))
  have HYd := hid (box_below (heap_alloc_new w3 (.cells #[.pointer (some tp), .int .i64 (N : Int), .slice A3 l.length c3, .slice Ap (kk + 2) cp, .slice Ag l.length cg, .slice Df (kk + 1) cf, .int .i64 s3, .map (some M)] 82)) ((Below.refl _ (w3.alloc (.cells #[.pointer (some tp), .int .i64 (N : Int), .slice A3 l.length c3, .slice Ap (kk + 2) cp, .slice Ag l.length cg, .slice Df (kk + 1) cf, .int .i64 s3, .map (some M)] 82))).drew) (blk_lt (heap_alloc_new w3 (.cells #[.pointer (some tp), .int .i64 (N : Int), .slice A3 l.length c3, .slice Ap (kk + 2) cp, .slice Ag l.length cg, .slice Df (kk + 1) cf, .int .i64 s3, .map (some M)] 82))))
  have HGd := hid (HGW3.out.next hba.drew)
  obtain ⟨wd, hwd⟩ : ∃ wd, (w3.alloc (.cells #[.pointer (some tp), .int .i64 (N : Int), .slice A3 l.length c3, .slice Ap (kk + 2) cp, .slice Ag l.length cg, .slice Df (kk + 1) cf, .int .i64 s3, .map (some M)] 82)).drew = wd := ⟨_, rfl⟩
  rw [hwd] at HBd HXd HYd HGd
  obtain ⟨Bg, hBg⟩ : ∃ Bg, w3.heap.size = Bg := ⟨_, rfl⟩
  have HLM : Hid (M < Bg) := by have := HGW3.out.lt; show _ < _; omega
  rw [hBg] at HYd
  simp only [hBg]
  have HS5 : Hid (∀ W : World, W.heap[w.heap.size]? = some (.cells #[.int .i64 x.frm, .int .i64 x.too, .int .i64 x.bnd, .slice y.av y.nv y.cv, .slice y.an y.nn y.cn, .slice y.al y.nl y.cl, .slice y.ac y.nc y.cc] 58 (0, 0)) → W.heap[Bg]? = some (.cells #[.pointer (some tp), .int .i64 (N : Int), .slice A3 l.length c3, .slice Ap (kk + 2) cp, .slice Ag l.length cg, .slice Df (kk + 1) cf, .int .i64 s3, .map (some M)] 82 (0, 0)) → W.cell? ⟨w.heap.size, 0, none⟩ = some (.int .i64 x.frm) ∧ W.cell? ⟨w.heap.size, 1, none⟩ = some (.int .i64 x.too) ∧ W.cell? ⟨w.heap.size, 2, none⟩ = some (.int .i64 x.bnd) ∧ W.cell? ⟨w.heap.size, 3, none⟩ = some (.slice y.av y.nv y.cv) ∧ W.cell? ⟨w.heap.size, 4, none⟩ = some (.slice y.an y.nn y.cn) ∧ W.cell? ⟨w.heap.size, 5, none⟩ = some (.slice y.al y.nl y.cl) ∧ W.cell? ⟨w.heap.size, 6, none⟩ = some (.slice y.ac y.nc y.cc) ∧ W.cell? ⟨Bg, 0, none⟩ = some (.pointer (some tp)) ∧ W.cell? ⟨Bg, 1, none⟩ = some (.int .i64 (N : Int)) ∧ W.cell? ⟨Bg, 2, none⟩ = some (.slice A3 l.length c3) ∧ W.cell? ⟨Bg, 3, none⟩ = some (.slice Ap (kk + 2) cp) ∧ W.cell? ⟨Bg, 4, none⟩ = some (.slice Ag l.length cg) ∧ W.cell? ⟨Bg, 5, none⟩ = some (.slice Df (kk + 1) cf) ∧ W.cell? ⟨Bg, 6, none⟩ = some (.int .i64 s3) ∧ W.cell? ⟨Bg, 7, none⟩ = some (.map (some M))) := fun W k0 k1 => by
    obtain ⟨z0, z1, z2, z3, z4, z5, z6⟩ := box7_cells k0
    obtain ⟨g0, g1, g2, g3, g4, g5, g6, g7⟩ := box8_cells k1
    exact ⟨z0, z1, z2, z3, z4, z5, z6, g0, g1, g2, g3, g4, g5, g6, g7⟩
  clear hba HX3 HB3 HGW3 z0 z1 z2 z3 z4 z5 z6 hBg
  refine region_ord 11 (fun W => W.cell? ⟨w.heap.size, 0, none⟩ = some (.int .i64 x.frm) ∧ W.cell? ⟨w.heap.size, 1, none⟩ = some (.int .i64 x.too) ∧ W.cell? ⟨w.heap.size, 2, none⟩ = some (.int .i64 x.bnd) ∧ W.cell? ⟨w.heap.size, 3, none⟩ = some (.slice y.av y.nv y.cv) ∧ W.cell? ⟨w.heap.size, 4, none⟩ = some (.slice y.an y.nn y.cn) ∧ W.cell? ⟨w.heap.size, 5, none⟩ = some (.slice y.al y.nl y.cl) ∧ W.cell? ⟨w.heap.size, 6, none⟩ = some (.slice y.ac y.nc y.cc) ∧ W.cell? ⟨Bg, 0, none⟩ = some (.pointer (some tp)) ∧ W.cell? ⟨Bg, 1, none⟩ = some (.int .i64 (N : Int)) ∧ W.cell? ⟨Bg, 2, none⟩ = some (.slice A3 l.length c3) ∧ W.cell? ⟨Bg, 3, none⟩ = some (.slice Ap (kk + 2) cp) ∧ W.cell? ⟨Bg, 4, none⟩ = some (.slice Ag l.length cg) ∧ W.cell? ⟨Bg, 5, none⟩ = some (.slice Df (kk + 1) cf) ∧ W.cell? ⟨Bg, 6, none⟩ = some (.int .i64 s3) ∧ W.cell? ⟨Bg, 7, none⟩ = some (.map (some M))) (by kernel_rfl) (by rw [hwd]; exact HS5.out _ HXd.out HYd.out) (fun hHeld => ?_)
  rw [hwd] at hHeld ⊢
  clear hwd
  refine OrdF.take (i := 0) (v := ?_) rfl (by kernel_rfl) (fun _ _ _ h => h) (by rfl) ?_ (by assumption) ?_
  (rotate_left; focus (intro w' hSw; (try dsimp only at hSw); go_simp; (try with_reducible rfl)))
  try simp only [List.getElem_toArray, List.getElem_cons_zero, Act.put, List.setIfInBounds_toArray, List.set_cons_zero, List.set_cons_succ]
  refine OrdF.take (i := 1) (v := ?_) rfl (by kernel_rfl) (fun _ _ _ h => h) (by rfl) ?_ (by assumption) ?_
  (rotate_left; focus (intro w' hSw; (try dsimp only at hSw); go_simp; (try with_reducible rfl)))
  try simp only [List.getElem_toArray, List.getElem_cons_succ, List.getElem_cons_zero, Act.put, List.setIfInBounds_toArray, List.set_cons_zero, List.set_cons_succ]
  refine OrdF.take (i := 3) (v := ?_) rfl (by kernel_rfl) (fun _ _ _ h => h) (by rfl) ?_ (by assumption) ?_
  (rotate_left; focus (intro w' hSw; (try dsimp only at hSw); go_simp; (try with_reducible rfl)))
  try simp only [List.getElem_toArray, List.getElem_cons_succ, List.getElem_cons_zero, Act.put, List.setIfInBounds_toArray, List.set_cons_zero, List.set_cons_succ]
  refine OrdF.take (i := 4) (v := ?_) rfl (by kernel_rfl) (fun _ _ _ h => h) (by rfl) ?_ (by assumption) ?_
  (rotate_left; focus (intro w' hSw; (try dsimp only at hSw); go_simp; (try with_reducible rfl)))
  try simp only [List.getElem_toArray, List.getElem_cons_succ, List.getElem_cons_zero, Act.put, List.setIfInBounds_toArray, List.set_cons_zero, List.set_cons_succ]
  refine OrdF.take (i := 5) (v := ?_) rfl (by kernel_rfl) (fun _ _ _ h => h) (by rfl) ?_ (by assumption) ?_
  (rotate_left; focus (intro w' hSw; (try dsimp only at hSw); go_simp; (try with_reducible rfl)))
  try simp only [List.getElem_toArray, List.getElem_cons_succ, List.getElem_cons_zero, Act.put, List.setIfInBounds_toArray, List.set_cons_zero, List.set_cons_succ]
  refine OrdF.take (i := 6) (v := ?_) rfl (by kernel_rfl) (fun _ _ _ h => h) (by rfl) ?_ (by assumption) ?_
  (rotate_left; focus (intro w' hSw; (try dsimp only at hSw); go_simp; (try with_reducible rfl)))
  try simp only [List.getElem_toArray, List.getElem_cons_succ, List.getElem_cons_zero, Act.put, List.setIfInBounds_toArray, List.set_cons_zero, List.set_cons_succ]
  refine OrdF.one (i := 2) rfl (by kernel_rfl) (fun K hK => ?_)
  try simp only [List.getElem_toArray, List.getElem_cons_succ, List.getElem_cons_zero, Act.put, List.setIfInBounds_toArray, List.set_cons_zero, List.set_cons_succ]
  go_simp
  (go_at_call 19; (with_reducible refine (HG.out _ HBd.out).mono ?_); rintro e' w5 ⟨A5, c5, rfl, hown5, hb5⟩)
  have HB5 := hid (HBd.out.trans (hb5.mono HBd.out.size))
  have HXe := hid (box_below HXd.out hb5 (blk_lt HXd.out))
  have HYe := hid (box_below HYd.out hb5 (blk_lt HYd.out))
  have HGe := hid (HGd.out.next hb5)
  have HOe := hid hown5
  clear hown5 hb5
  try go_wp2_with fail
  refine hK.out _ _ (HS5.out _ HXe.out HYe.out) (fun hHeld => ?_)
  clear hK K
  try simp only [List.getElem_toArray, List.getElem_cons_succ, List.getElem_cons_zero, Act.put, List.setIfInBounds_toArray, List.set_cons_zero, List.set_cons_succ]
  refine OrdF.one (i := 7) rfl (by kernel_rfl) (fun K hK => ?_)
  try simp only [List.getElem_toArray, List.getElem_cons_succ, List.getElem_cons_zero, Act.put, List.setIfInBounds_toArray, List.set_cons_zero, List.set_cons_succ]
  have hsr := search_any (s := s3) (c2 := c5) hg hr hN hl16 hv4 (by omega) e hce w5 HGe.out (links_at HOe.out) (HTw.out _ HB5.out).2.1
  have HSr := hid hsr
  clear hsr
  go_simp
  (go_at_call 31; (with_reducible refine HSr.out.mono ?_); rintro e' w6 ⟨v6, rfl, hown6, hb6⟩)
  have HO6 := hid hown6
  have HB6 := hid (HB5.out.trans ((hb6.below (Nat.le_of_lt HM.out) HB5.out.size)))
  have HXf := hid (box_but HXe.out hb6 (by have := HM.out; omega))
  have HYf := hid (box_but HYe.out hb6 (by have := HLM.out; omega))
  clear hown6 hb6
  try go_wp2_with fail
  refine hK.out _ _ (HS5.out _ HXf.out HYf.out) (fun hHeld => ?_)
  clear hK K
  try simp only [List.getElem_toArray, List.getElem_cons_succ, List.getElem_cons_zero, Act.put, List.setIfInBounds_toArray, List.set_cons_zero, List.set_cons_succ]
  refine OrdF.take (i := 8) (v := ?_) rfl (by kernel_rfl) (fun _ _ _ h => h) (by rfl) ?_ (by assumption) ?_
  (rotate_left; focus (intro w' hSw; (try dsimp only at hSw); go_simp; (try with_reducible rfl)))
  try simp only [List.getElem_toArray, List.getElem_cons_succ, List.getElem_cons_zero, Act.put, List.setIfInBounds_toArray, List.set_cons_zero, List.set_cons_succ]
  refine OrdF.take (i := 9) (v := ?_) rfl (by kernel_rfl) (fun _ _ _ h => h) (by rfl) ?_ (by assumption) ?_
  (rotate_left; focus (intro w' hSw; (try dsimp only at hSw); go_simp; (try with_reducible rfl)))
  try simp only [List.getElem_toArray, List.getElem_cons_succ, List.getElem_cons_zero, Act.put, List.setIfInBounds_toArray, List.set_cons_zero, List.set_cons_succ]
  refine OrdF.one (i := 10) rfl (by kernel_rfl) (fun K hK => ?_)
  try simp only [List.getElem_toArray, List.getElem_cons_succ, List.getElem_cons_zero, Act.put, List.setIfInBounds_toArray, List.set_cons_zero, List.set_cons_succ]
  go_simp
  refine hK.out _ _ (HS5.out _ HXf.out HYf.out) (fun hHeld => ?_)
  clear hK K
  try simp only [List.getElem_toArray, List.getElem_cons_succ, List.getElem_cons_zero, Act.put, List.setIfInBounds_toArray, List.set_cons_zero, List.set_cons_succ]
  refine OrdF.last (n := 11) rfl (by kernel_rfl) (fun K hK => ?_)
  try simp only [List.getElem_toArray, List.getElem_cons_succ, List.getElem_cons_zero, Act.put]
  go_simp
  refine hK.out _ _ ?_
  clear hK K
  try simp only [List.getElem_toArray, List.getElem_cons_succ, List.getElem_cons_zero, Act.put, List.setIfInBounds_toArray, List.set_cons_zero, List.set_cons_succ]
  go_wp2_with fail
  refine bodyPost_ret (results_tmp2 rfl _ _ _) rfl ?_
  refine ⟨_, by rw [HR.out]; rfl, ?_, HB6.out⟩
  rw [HR.out]; exact HO6.out
end Go.Proofs.Ytkemcgbedapkcaa

/- compile: what the laws ask of it. -/
namespace Go.Proofs.Ytkemcgbedapkcaa
open Go.RowKit
set_option maxHeartbeats 6400000
set_option maxRecDepth 100000
theorem new_ops : NewOps TabAt 16 := ⟨tabAt_keep, new_any⟩
theorem list_any (tp : Addr) (N : Nat) (l : List Lnk) (x : Wnt) (y : WSl) (Ad : Option Addr) (n' c' : Nat) (dn : List Bool) (d : Int) (w : World) (ht : TabAt w tp N l) (hg : GOk N l) (hN : N ≤ 10) (hl16 : l.length ≤ 16) (hw : WArg w x y) (hd : DArg w Ad n' c' dn) (h1 : y.nv ≤ 100) (h2 : y.nn ≤ 100) (h3 : y.nl ≤ 100) (h4 : y.nc ≤ 100) (h64 : In64 d) :
    Calls Try.prog 20 #[.pointer (some tp), .agg #[.int .i64 x.frm, .int .i64 x.too, .int .i64 x.bnd, .slice y.av y.nv y.cv, .slice y.an y.nn y.cn, .slice y.al y.nl y.cl, .slice y.ac y.nc y.cc], .slice Ad n' c', .int .i64 d] w (ListAns N l x dn d w) := by
  by_cases hc : (costS (N : Int) l x dn).2 = 0
  · exact list_ok tp N l x y Ad n' c' dn d w ⟨ht, hw, hd⟩ hg hN hl16 h1 h2 h3 h4 h64 hc
  · exact list_err tp N l x y Ad n' c' dn d w ⟨ht, hw, hd⟩ hg hl16 h1 h2 h3 h4 _ rfl hc
theorem comp_ops : CompOps TabAt 20 := by
  intro w p N l x y Ad n' c' dn d ht hg hN hl hw hd h1 h2 h3 h4 h64
  refine (list_any p N l x y Ad n' c' dn d w ht hg hN hl hw hd h1 h2 h3 h4 h64).mono ?_
  rintro e w' ⟨v, rfl, hown, hb⟩
  obtain ⟨A, c, rfl⟩ := own_form hown
  obtain ⟨A', c', he, _, hr⟩ := own_segs hown rfl
  simp only [Value.slice.injEq] at he
  obtain ⟨rfl, _, rfl⟩ := he
  exact ⟨A, c, rfl, hr, hb⟩
end Go.Proofs.Ytkemcgbedapkcaa
