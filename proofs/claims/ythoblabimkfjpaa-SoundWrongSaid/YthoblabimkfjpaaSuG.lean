/- slices.SortStableFunc at rules: what it leaves. -/
import Derived.Test.YthoblabimkfjpaaSuF
import Derived.Test.YthoblabimkfjpaaRuB
import Derived.Ground.SlsfProg
namespace Go.Proofs.Ythoblabimkfjpaa
open Go.RowKit Go.Sort Go.Proofs
set_option maxHeartbeats 6400000
set_option maxRecDepth 1000000
def laysIns_ren : Go.Shelf.Ren := ⟨fun | 20 => 59 | n => n, fun | 24 => 58 | 22 => 40 | 3 => 3 | 25 => 83 | 4 => 4 | 0 => 0 | n => n, fun | n => n⟩
theorem laysIns : Go.Proofs.SlLaysF0.n20 Try.prog laysIns_ren := {
  mixed := by kernel_rfl
  f20 := ⟨Try.f59.name, by decide, Try.func59.trans (congrArg some (by kernel_rfl))⟩
  t0 := Try.underlying0
  a0 := Try.isAgg0
  z0 := Try.sizeOf0
  v0 := Try.zeroValue0
  t3 := Try.underlying3
  a3 := Try.isAgg3
  z3 := Try.sizeOf3
  v3 := Try.zeroValue3
  t4 := Try.underlying4
  a4 := Try.isAgg4
  z4 := Try.sizeOf4
  v4 := Try.zeroValue4
  t22 := Try.underlying40
  a22 := Try.isAgg40
  z22 := Try.sizeOf40
  v22 := Try.zeroValue40
  t25 := Try.underlying83
  a25 := Try.isAgg83
  z25 := Try.sizeOf83
  v25 := Try.zeroValue83 }
instance : Inhabited (Rul × WSl) := ⟨(noRul, noWSl)⟩
/-- A rule with the place where it stood. -/
abbrev TQ := (Rul × WSl) × Nat
def encT (x : TQ) : List Value := (rarr x.1.1 x.1.2).toList
def prT (x : TQ) : Int := x.1.1.pri
def tgT (x : TQ) : Nat := x.2
def cmpI (x y : Int) : Int := if x < y then -1 else if y < x then 1 else 0
def cfT (x y : TQ) : Int := cmpI y.1.1.pri x.1.1.pri
theorem elt_T : Elt encT 17 := ⟨Try.isAgg58, Try.sizeOf58, fun x => by simp [encT, rarr], fun x v hv => by
  simp only [encT, rarr, List.mem_cons, List.not_mem_nil, or_false] at hv
  rcases hv with rfl | rfl | rfl | rfl | rfl | rfl | rfl | rfl | rfl | rfl | rfl | rfl | rfl | rfl | rfl | rfl | rfl <;> rfl⟩
theorem isNaN_any (x : Int) (w : World) : Calls Try.prog 50 #[.int .i64 x] w fun e w' => e = .returned (.bool false) ∧ w = w' := by
  go_enter Try.func50, Try.ntmps50
  go_wp2_with fail
  go_ret
  exact ⟨by simp, rfl⟩
theorem compare_any (x y : Int) (w : World) : Calls Try.prog 36 #[.int .i64 x, .int .i64 y] w fun e w' => e = .returned (.int .i64 (cmpI x y)) ∧ w = w' := by
  have HN := hid isNaN_any
  have Q : Hid (cmpI x y = if x < y then -1 else if y < x then 1 else 0) := rfl
  by_cases h1 : x < y
  · have t1 : decide (x < y) = true := decide_eq_true h1
    rw [if_pos h1] at Q
    clear h1
    go_enter Try.func36, Try.ntmps36
    go_wp2_with (go_at_call 50; (with_reducible refine (HN.out _ _).mono ?_); rintro _ _ ⟨rfl, rfl⟩)
    go_ret
    exact ⟨by rw [Q.out]; rfl, rfl⟩
  · have t1 : decide (x < y) = false := decide_eq_false h1
    rw [if_neg h1] at Q
    by_cases h2 : y < x
    · have t2 : decide (y < x) = true := decide_eq_true h2
      rw [if_pos h2] at Q
      clear h1 h2
      go_enter Try.func36, Try.ntmps36
      go_wp2_with (go_at_call 50; (with_reducible refine (HN.out _ _).mono ?_); rintro _ _ ⟨rfl, rfl⟩)
      go_ret
      exact ⟨by rw [Q.out]; rfl, rfl⟩
    · have t2 : decide (y < x) = false := decide_eq_false h2
      rw [if_neg h2] at Q
      clear h1 h2
      go_enter Try.func36, Try.ntmps36
      go_wp2_with (go_at_call 50; (with_reducible refine (HN.out _ _).mono ?_); rintro _ _ ⟨rfl, rfl⟩)
      go_ret
      exact ⟨by rw [Q.out]; rfl, rfl⟩
theorem closure_any (x y : TQ) (w : World) : Calls Try.prog 35 (#[.agg (encT x).toArray, .agg (encT y).toArray] ++ #[]) w fun e w' => e = .returned (.int .i64 (cfT x y)) ∧ ∃ q os', w' = grow (w.drewN q) os' := by
  have HC := hid (fun W => compare_any y.1.1.pri x.1.1.pri W)
  have hx : ∀ z : TQ, (encT z).toArray = rarr z.1.1 z.1.2 := fun z => by unfold encT; simp
  show Calls Try.prog 35 #[.agg (encT x).toArray, .agg (encT y).toArray] w _
  rw [hx, hx]
  obtain ⟨⟨r1, y1⟩, i1⟩ := x
  obtain ⟨⟨r2, y2⟩, i2⟩ := y
  have Q : Hid (cfT ((r1, y1), i1) ((r2, y2), i2) = cmpI r2.pri r1.pri) := rfl
  rw [Q.out]
  show Calls Try.prog 35 #[.agg (rarr r1 y1), .agg (rarr r2 y2)] w _
  unfold rarr
  go_enter Try.func35, Try.ntmps35
  go_wp2_with (go_at_call 36; (with_reducible refine (HC.out _).mono ?_); rintro _ _ ⟨rfl, rfl⟩)
  go_ret
  exact ⟨rfl, 0, _, by rw [alloc_eq_grow, alloc_eq_grow, grow_grow]; rfl⟩
theorem cmp_T : CmpA 35 #[] encT cfT prT := ⟨enters_of Try.func35 (by kernel_rfl) rfl, closure_any, fun x y => by
  unfold ltP cfT cmpI prT
  by_cases h1 : y.1.1.pri < x.1.1.pri
  · rw [if_pos h1, decide_eq_true h1]; rfl
  · rw [if_neg h1, decide_eq_false h1]
    by_cases h2 : x.1.1.pri < y.1.1.pri
    · rw [if_pos h2]; rfl
    · rw [if_neg h2]; rfl⟩
section
variable {α : Type} [Inhabited α]
variable {enc : α → List Value} {k : Nat} {w : World} {blk off : Nat} {cf : α → α → Int} {pr : α → Int} {tg : α → Nat}
theorem insertion_any (E : Elt enc k) (g : Nat) (cb : Array Value) (C : CmpA g cb enc cf pr) (cap a b : Nat) (d : Array α) (w : World) (hH : HoldsK enc k w blk off d) (hblk : blk < w.heap.size) (hab : a ≤ b) (hb : b ≤ d.size) (hsz : d.size < 4611686018427387904) (hr : Ris tg d a b) :
    Calls Try.prog 59 #[.slice (some ⟨blk, off, none⟩) d.size cap, .int .i64 a, .int .i64 b, .func (.func g) #[] cb] w fun e w' =>
      e = .returned (.tuple #[]) ∧ ∃ d' : Array α, Srt enc k w blk off d' w' ∧ PermIn a b d d' ∧ SoT pr tg d' a b := by
  have hcon := AnyQ.insertionSortCmpFunc laysIns k E.ag E.sz enc E.len E.one cf g cb blk off cap a b d w C.eg (fun _ _ _ _ x y => C.cmp x y _) hH hblk hab hb hsz
  change Calls Try.prog 59 _ _ _ at hcon
  have hl : ltOf cf = ltP pr := by
    funext x y
    exact C.lt x y
  rw [hl] at hcon
  refine hcon.mono ?_
  rintro e w' ⟨rfl, n, os, rfl⟩
  refine ⟨rfl, _, ⟨n, os, rfl⟩, ?_⟩
  by_cases h : a = b
  · subst h
    have : insertionSort (ltP pr) d a a = d := by unfold insertionSort insOuter; rw [if_neg (by omega)]
    rw [this]
    exact ⟨permIn_refl _ _ _, fun i j _ _ _ => by omega⟩
  · obtain ⟨h1, h2⟩ := insertion_stable (pr := pr) (tg := tg) (show a < b by omega) hb hr
    exact ⟨h2, h1⟩
theorem stable_any (E : Elt enc k) (g : Nat) (cb : Array Value) (C : CmpA g cb enc cf pr) (cap : Nat) (d : Array α) (w : World) (hH : HoldsK enc k w blk off d) (hblk : blk < w.heap.size) (hsz : d.size ≤ 39) (hr : Ris tg d 0 d.size) :
    Calls Try.prog 49 #[.slice (some ⟨blk, off, none⟩) d.size cap, .int .i64 d.size, .func (.func g) #[] cb] w fun e w' =>
      e = .returned (.tuple #[]) ∧ ∃ d' : Array α, Srt enc k w blk off d' w' ∧ PermIn 0 d.size d d' ∧ SoT pr tg d' 0 d.size := by
  have HE := hid E
  have HH := hid hH
  have HS := hid (Srt.start hH)
  have HC := hid C
  have HR := hid hr
  obtain ⟨n, hn⟩ : ∃ n, d.size = n := ⟨_, rfl⟩
  rw [hn] at hsz HR ⊢
  have HN := hid hn
  clear hH E C hr hn
  go_enter Try.func49, Try.ntmps49
  go_wp2_with fail
  go_loopw [7, 8] (fun va vb wr => ∃ (p : Nat) (dk : Array α), va = .int .i64 p ∧ vb = .int .i64 ((p : Int) + 20) ∧ (p = 0 ∨ p = 20) ∧ p ≤ n ∧ Hid (dk.size = n) ∧ Hid (Srt enc k w blk off dk wr) ∧ Hid (PermIn 0 p d dk) ∧ Hid (SoT pr tg dk 0 p)) (fun va _ _ => 40 - (intOf va).toNat)
  case atStart => exact ⟨0, d, rfl, by rfl, Or.inl rfl, Nat.zero_le _, HN, HS, permIn_refl _ _ _, fun i j _ _ _ => by omega⟩
  case round =>
    obtain ⟨p, dk, rfl, rfl, hp, hpn, HK, HW, HP, HO⟩ := hrel
    have HRk : Hid (Ris tg dk p n) := fun i j h1 h2 h3 => by
      rw [HP.out.2.1 i (Or.inr h1), HP.out.2.1 j (Or.inr (by omega))]
      exact HR.out i j (by omega) h2 h3
    by_cases hlt : p + 20 ≤ n
    · obtain rfl : p = 0 := by omega
      have t1 : decide ((20 : Int) ≤ (n : Int)) = true := decide_eq_true (by omega)
      have hc := insertion_any (pr := pr) (tg := tg) HE.out g cb HC.out cap 0 20 dk wr (HW.out.holds HH.out hblk (HK.out.trans HN.out.symm)).1 (HW.out.holds HH.out hblk (HK.out.trans HN.out.symm)).2 (by omega) (by rw [HK.out]; omega) (by rw [HK.out]; omega) (fun i j h1 h2 h3 => HRk.out i j h1 h2 (by omega))
      rw [HK.out, show ((0 : Nat) : Int) = 0 from rfl, show ((20 : Nat) : Int) = 20 from rfl] at hc
      have HCC := hid hc
      clear hc
      go_wp2_with (first | (go_at_call 59; (with_reducible refine HCC.out.mono ?_); rintro e1 w1 ⟨rfl, d1, hS1, hp1, ho1⟩))
      go_roundw
      case measure => simp [intOf]
      case rel =>
        exact ⟨20, d1, by rfl, by rfl, Or.inr rfl, by omega, hp1.1.trans HK.out, HW.out.on hS1 hblk hp1.1, permIn_trans _ _ _ _ _ (permIn_mono _ _ 0 0 0 20 (Nat.le_refl _) (by omega) (by rw [HN.out]; omega) HP.out) hp1, ho1⟩
    · have t1 : decide ((p : Int) + 20 ≤ (n : Int)) = false := decide_eq_false (by omega)
      have hc := insertion_any (pr := pr) (tg := tg) HE.out g cb HC.out cap p n dk wr (HW.out.holds HH.out hblk (HK.out.trans HN.out.symm)).1 (HW.out.holds HH.out hblk (HK.out.trans HN.out.symm)).2 hpn (by rw [HK.out]; omega) (by rw [HK.out]; omega) HRk.out
      rw [HK.out] at hc
      have HCC := hid hc
      clear hc
      go_wp2_with (first | (go_at_call 59; (with_reducible refine HCC.out.mono ?_); rintro e1 w1 ⟨rfl, d1, hS1, hp1, ho1⟩))
      have H1 := hid (show d1.size = n ∧ Srt enc k w blk off d1 w1 ∧ PermIn 0 n d d1 ∧ (n ≤ 20 → SoT pr tg d1 0 n) ∧ (20 < n → SoT pr tg d1 0 20 ∧ SoT pr tg d1 20 n ∧ Sep tg d1 0 20 n) from by
        have o1 : ∀ q, q < p → d1[q]! = dk[q]! := fun q hq => hp1.2.1 q (Or.inl hq)
        have s1 : SoT pr tg d1 0 p := fun i j h1 h2 h3 => by rw [o1 i (by omega), o1 j h3]; exact HO.out i j h1 h2 h3
        refine ⟨hp1.1.trans HK.out, HW.out.on hS1 hblk hp1.1, permIn_trans _ _ _ _ _ (permIn_mono _ _ 0 p 0 n (Nat.le_refl _) hpn (by rw [HN.out]; exact Nat.le_refl _) HP.out) (permIn_mono _ _ p n 0 n (Nat.zero_le _) (Nat.le_refl _) (by rw [HK.out]; exact Nat.le_refl _) hp1), fun hn20 => ?_, fun hn20 => ?_⟩
        · rcases hp with rfl | rfl
          · exact ho1
          · obtain rfl : n = 20 := by omega
            exact s1
        · obtain rfl : p = 20 := by omega
          refine ⟨s1, ho1, fun i j h1 h2 h3 h4 => ?_⟩
          obtain ⟨j', q1, q2, e1⟩ := perm_of (by rw [HK.out]; omega) hp1 j h3 h4
          rw [o1 i h2, e1, HP.out.2.1 j' (Or.inr q1)]
          obtain ⟨i', q3, q4, e2⟩ := perm_of (by rw [HN.out]; omega) HP.out i h1 h2
          rw [e2]
          exact HR.out i' j' (by omega) (by omega) q2)
      clear hS1 hp1 ho1 HO HRk HCC HP HW HK hp
      go_loopw [6] (fun vb wr => (vb = .int .i64 20 ∧ Hid (Srt enc k w blk off d1 wr)) ∨ (20 < n ∧ vb = .int .i64 40 ∧ ∃ d2, Hid (Srt enc k w blk off d2 wr) ∧ Hid (PermIn 0 n d d2 ∧ SoT pr tg d2 0 n))) (fun vb _ => 40 - (intOf vb).toNat)
      case atStart => exact Or.inl ⟨rfl, H1.out.2.1⟩
      case round =>
        rcases hrel with ⟨rfl, HW⟩ | ⟨h20, rfl, d2, HW, HF⟩
        · by_cases h20 : 20 < n
          · have t2 : decide ((20 : Int) < (n : Int)) = true := decide_eq_true (by omega)
            have t3 : decide ((40 : Int) ≤ (n : Int)) = false := decide_eq_false (by omega)
            have hs1 : d1.size = d.size := H1.out.1.trans HN.out.symm
            have hcc := symMerge_any (enc := enc) (blk := blk) (off := off) (tg := tg) HE.out g cb HC.out cap n (by omega) n 0 20 n (by omega) (by omega) h20 (Nat.le_refl _) d1 wr H1.out.1 (HW.out.holds HH.out hblk hs1).1 (HW.out.holds HH.out hblk hs1).2 (H1.out.2.2.2.2 h20).1 (H1.out.2.2.2.2 h20).2.1 (H1.out.2.2.2.2 h20).2.2
            rw [show ((0 : Nat) : Int) = 0 from rfl, show ((20 : Nat) : Int) = 20 from rfl] at hcc
            have HCC := hid hcc
            clear hcc hs1
            go_wp2_with fail
            refine wp_loop_rounds 1 ?_
            rw [rounds_succ]
            go_wp2_with (first | (go_at_call 60; (with_reducible refine HCC.out.mono ?_); rintro e2 w2 ⟨rfl, d2, hS2, hp2, ho2⟩))
            go_roundw
            case measure => simp [intOf]
            case rel => exact Or.inr ⟨h20, by rfl, d2, HW.out.on hS2 hblk hp2.1, permIn_trans _ _ _ _ _ H1.out.2.2.1 hp2, ho2⟩
          · have t2 : decide ((20 : Int) < (n : Int)) = false := decide_eq_false (by omega)
            go_wp2_with fail
            go_end0
            exact ⟨rfl, d1, HW.out, H1.out.2.2.1, H1.out.2.2.2.1 (by omega)⟩
        · have t2 : decide ((40 : Int) < (n : Int)) = false := decide_eq_false (by omega)
          go_wp2_with fail
          go_end0
          exact ⟨rfl, d2, HW.out, HF.out.1, HF.out.2⟩
theorem sortStable_any (E : Elt enc k) (g : Nat) (cb : Array Value) (C : CmpA g cb enc cf pr) (cap : Nat) (d : Array α) (w : World) (hH : HoldsK enc k w blk off d) (hblk : blk < w.heap.size) (hsz : d.size ≤ 39) (hr : Ris tg d 0 d.size) :
    Calls Try.prog 34 #[.slice (some ⟨blk, off, none⟩) d.size cap, .func (.func g) #[] cb] w fun e w' =>
      e = .returned (.tuple #[]) ∧ ∃ d' : Array α, Srt enc k w blk off d' w' ∧ PermIn 0 d.size d d' ∧ SoT pr tg d' 0 d.size := by
  have HC := hid (stable_any (tg := tg) E g cb C cap d w hH hblk hsz hr)
  obtain ⟨n, hn⟩ : ∃ n, d.size = n := ⟨_, rfl⟩
  rw [hn] at HC hsz ⊢
  clear hH E C hr
  go_enter Try.func34, Try.ntmps34
  go_wp2_with (first | (go_at_call 49; (with_reducible refine HC.out.mono ?_); rintro e1 w1 ⟨rfl, d1, hS1, hp1, ho1⟩))
  go_end0
  exact ⟨rfl, d1, hS1, hp1, ho1⟩
end
end Go.Proofs.Ythoblabimkfjpaa
