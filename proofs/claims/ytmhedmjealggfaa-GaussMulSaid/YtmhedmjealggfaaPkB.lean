import Derived.Test.YtmhedmjealggfaaPkA
import Derived.Deep.RegionHeld3
import Derived.Deep.AppendLies
import Derived.WalkSpells
import Derived.StillTactics
import Derived.Outline
namespace Go.Proofs.Ytmhedmjealggfaa
open Go.RowKit
set_option maxHeartbeats 1600000
set_option maxRecDepth 100000

/-- A flow. -/
structure Tup where
  src : Int
  dst : Int
  pro : Int
  sp : Int
  dp : Int
instance : DecidableEq Tup := fun a b => decidable_of_iff (a.src = b.src ∧ a.dst = b.dst ∧ a.pro = b.pro ∧ a.sp = b.sp ∧ a.dp = b.dp) (by cases a; cases b; simp)
def Tup.ok (t : Tup) : Bool := decide (0 ≤ t.pro ∧ t.pro ≤ 255 ∧ 0 ≤ t.sp ∧ t.sp ≤ 65535 ∧ 0 ≤ t.dp ∧ t.dp ≤ 65535)
def Tup.fits (t : Tup) : Prop := 0 ≤ t.src ∧ t.src < 4294967296 ∧ 0 ≤ t.dst ∧ t.dst < 4294967296
def be4s (x : Int) : List UInt8 := [byt (x / 16777216), byt (x / 65536), byt (x / 256), byt x]
def Tup.bytes (t : Tup) : List UInt8 := if t.ok = true then be4s t.src ++ (be4s t.dst ++ [byt t.pro, byt (t.sp / 256), byt t.sp, byt (t.dp / 256), byt t.dp]) else []
theorem m255 (x : Int) (h : 0 ≤ x) (h' : x < 4294967296) : bits .and .u32 x 255 = x % 256 := u32_mask 8 (by decide) 255 (by decide) x h h'
theorem m255i (x : Int) (h : 0 ≤ x) (h' : x < 4294967296) : bits .and .i64 x 255 = x % 256 := i64_mask 8 (by decide) 255 (by decide) x h (by omega)

theorem u8w (x : Int) (h : 0 ≤ x) (h' : x < 256) : IntKind.u8.wrap x = x := by rw [IntKind.wrap_u8]; omega

theorem below_app {w2 w3 : World} {o : Obj} (h : ((w2.alloc o).drew).grownBy w3 none) : Below w2.heap.size w2 w3 :=
  (((Below.refl _ _).alloc (Nat.le_refl _) o).drew).trans ((grown_below h).mono (by simp))

theorem below_app2 {w2 w3 w5 : World} {o : Obj} {g n c : Nat} (h0 : w2.heap.size ≤ w3.heap.size) (hg : w2.heap.size ≤ g) (h : ((w3.alloc o).drew).grownBy w5 (Value.slice (some ⟨g, 0, none⟩) n c).ownBlock) : Below w2.heap.size w3 w5 :=
  Below.grown (((Below.refl _ _).alloc h0 o).drew) h (by simp; omega) (fun k hk => by simp [Value.ownBlock] at hk; omega)

theorem below_app3 {w2 w5 w6 : World} {o : Obj} {v : Value} {n : Nat} {xs : List Value} (h0 : w2.heap.size ≤ w5.heap.size) (hown : w5.ownsRow w2.heap.size 5 1 v n xs) (h : (w5.alloc o).grownBy w6 v.ownBlock) : Below w2.heap.size w5 w6 :=
  Below.grown ((Below.refl _ _).alloc h0 o) h (by simp; omega) (fun k hk => (hown.lt k hk).1)
theorem own_base {w : World} {base base' : Nat} {e : TypeId} {size : Nat} {v : Value} {n : Nat} {xs : List Value} (hb : base' ≤ base) (h : w.ownsRow base e size v n xs) : w.ownsRow base' e size v n xs := by
  obtain ⟨h1, h2⟩ := h
  refine ⟨h1, ?_⟩
  rcases h2 with h2 | ⟨g, cap, cur, hv, hg, r⟩
  · exact .inl h2
  · exact .inr ⟨g, cap, cur, hv, by omega, r⟩
theorem row5 {p q r : Int} (k1 : 0 ≤ p) (k2 : p ≤ 255) (k3 : 0 ≤ q) (k4 : q ≤ 65535) (k5 : 0 ≤ r) (k6 : r ≤ 65535) :
    #[Value.int .u8 p, .int .u8 (q / 256), .int .u8 (q % 256), .int .u8 (r / 256), .int .u8 (r % 256)] = (bcells [byt p, byt (q / 256), byt q, byt (r / 256), byt r]).toArray := by
  simp only [bcells, List.map_cons, List.map_nil, byt_val]
  rw [show p % 256 = p by omega, show q / 256 % 256 = q / 256 by omega, show r / 256 % 256 = r / 256 by omega]
theorem row13 {w : World} {B : Nat} {v : Value} {a b p q r : Int} (f1 : 0 ≤ a) (f2 : a < 4294967296) (f3 : 0 ≤ b) (f4 : b < 4294967296) (hk : (Tup.mk a b p q r).ok = true)
    (h : w.ownsRow B 5 1 v 13 (Value.int .u8 (a / 16777216) :: .int .u8 (a / 65536 % 256) :: .int .u8 (a / 256 % 256) :: .int .u8 (a % 256) :: .int .u8 (b / 16777216) :: .int .u8 (b / 65536 % 256) :: .int .u8 (b / 256 % 256) :: .int .u8 (b % 256) :: bcells [byt p, byt (q / 256), byt q, byt (r / 256), byt r])) :
    w.ownsRow B 5 1 v 13 (bcells (Tup.mk a b p q r).bytes) := by
  have e : bcells (Tup.mk a b p q r).bytes = (Value.int .u8 (a / 16777216) :: .int .u8 (a / 65536 % 256) :: .int .u8 (a / 256 % 256) :: .int .u8 (a % 256) :: .int .u8 (b / 16777216) :: .int .u8 (b / 65536 % 256) :: .int .u8 (b / 256 % 256) :: .int .u8 (b % 256) :: bcells [byt p, byt (q / 256), byt q, byt (r / 256), byt r]) := by
    unfold Tup.bytes
    rw [if_pos hk, bcells_app, bcells_app]
    simp only [be4s, bcells, List.map_cons, List.map_nil, byt_val, List.cons_append, List.nil_append]
    rw [show a / 16777216 % 256 = a / 16777216 by omega, show b / 16777216 % 256 = b / 16777216 by omega]
  rw [e]; exact h

theorem putTuple_yes (t : Tup) (hf : t.fits) (hk : t.ok = true) (w : World) :
    Calls Try.prog 14 #[.agg #[.int .u32 t.src, .int .u32 t.dst, .int .i64 t.pro, .int .i64 t.sp, .int .i64 t.dp]] w fun e w' => ∃ v, e = .returned v ∧ w'.ownsRow w.heap.size 5 1 v 13 (bcells t.bytes) ∧ Below w.heap.size w w' := by
  obtain ⟨a, b, p, q, r⟩ := t
  obtain ⟨i0, hi, hz0, hz1, hz2⟩ := info_parts Try.info5
  have Hi := hid hi; have Hz0 := hid hz0; have Hz1 := hid hz1; have Hz2 := hid hz2
  clear hi hz0 hz1 hz2
  have Hk := hid hk
  simp only [Tup.ok, decide_eq_true_eq] at hk
  obtain ⟨k1, k2, k3, k4, k5, k6⟩ := hk
  obtain ⟨f1, f2, f3, f4⟩ := hf
  simp only at f1 f2 f3 f4
  have d1 : decide (p < 0) = false := by simp; omega
  have d2 : decide (255 < p) = false := by simp; omega
  have d3 : decide (q < 0) = false := by simp; omega
  have d4 : decide (65535 < q) = false := by simp; omega
  have d5 : decide (r < 0) = false := by simp; omega
  have d6 : decide (65535 < r) = false := by simp; omega
  obtain ⟨w2, hW⟩ : ∃ w2, w2 = (w.alloc (.cells #[.int .u32 a, .int .u32 b, .int .i64 p, .int .i64 q, .int .i64 r] 24)).alloc (.cells #[.int .u32 a, .int .u32 b] 22) := ⟨_, rfl⟩
  have HW := hid hW
  clear hW
  have c0 : w2.cell? ⟨w.heap.size + 1, 0, none⟩ = some (.int .u32 a) := by rw [HW.out]; simp [go_sem]
  have c1 : w2.cell? ⟨w.heap.size + 1, 1, none⟩ = some (.int .u32 b) := by rw [HW.out]; simp [go_sem]
  have cp : w2.cell? ⟨w.heap.size, 2, none⟩ = some (.int .i64 p) := by rw [HW.out]; simp [go_sem]
  have cq : w2.cell? ⟨w.heap.size, 3, none⟩ = some (.int .i64 q) := by rw [HW.out]; simp [go_sem]
  have cr : w2.cell? ⟨w.heap.size, 4, none⟩ = some (.int .i64 r) := by rw [HW.out]; simp [go_sem]
  have hs2 : w2.heap.size = w.heap.size + 2 := by rw [HW.out]; simp
  have HS2 := hid hs2
  have hlt2 : w.heap.size + 1 < w2.heap.size := by omega
  clear hs2
  go_enter Try.func14, Try.ntmps14
  go_wp2_with fail
  rw [← HW.out]
  refine wp_loop_rounds 3 ?_
  rw [rounds_succ]
  go_wp2_with fail
  have u0 := u8w (a / 16777216) (by omega) (by omega)
  have u1 := u8w (a / 65536 % 256) (by omega) (by omega)
  have u2 := u8w (a / 256 % 256) (by omega) (by omega)
  have u3 := u8w (a % 256) (by omega) (by omega)
  have e1 := m255 (a / 65536) (by omega) (by omega)
  have e2 := m255 (a / 256) (by omega) (by omega)
  have e3 := m255 a (by omega) (by omega)
  go_region_held3 (fun w' => w'.cell? ⟨w.heap.size + 1, 0, none⟩ = some (.int .u32 a))
    (first
      | go_keep
      | ((rw [hgrow.cell_far _ (by simp; omega) (by simp [Value.ownBlock])]; assumption)))
    ((refine step_append_lies _ (by rfl) _ _ _ (by rfl) w2.heap.size 5 i0 _ 1 1 Try.underlying25 Hi.out Hz0.out Hz1.out Hz2.out rfl (by omega) (.slice none 0 0) 0 [] (by rfl) (World.ownsRow_nil _ _ _ _)
        ⟨w2.heap.size, 0, none⟩ 4 4 [.int .u8 (a / 16777216), .int .u8 (a / 65536 % 256), .int .u8 (a / 256 % 256), .int .u8 (a % 256)] (by rfl) (by rfl)
        (World.news_of_block (cs := #[.int .u8 (a / 16777216), .int .u8 (a / 65536 % 256), .int .u8 (a / 256 % 256), .int .u8 (a % 256)]) (t := 5) (fr := (0, 0)) (heap_alloc_new w2 _)) (by simp [Value.oneCell'])
        (by omega) (by unfold maxLen; omega) (by omega) (by simp) (w2.heap.size + 1) (by simp) ?_; intro gg cap w3 hown3 hgrow hat hlt))
  clear u0 u1 u2 u3 e1 e2 e3
  have hb3 : Below w2.heap.size w2 w3 := below_app (o := _) hgrow
  have hgg : w2.heap.size < gg := by
    rcases hat with h | h
    · cases h
    · omega
  have hs3 := hb3.size
  have g1 := (hb3.cell (p := ⟨w.heap.size + 1, 1, none⟩) (by simpa using hlt2)).trans c1
  have gp := (hb3.cell (p := ⟨w.heap.size, 2, none⟩) (by simp; omega)).trans cp
  have gq := (hb3.cell (p := ⟨w.heap.size, 3, none⟩) (by simp; omega)).trans cq
  have gr := (hb3.cell (p := ⟨w.heap.size, 4, none⟩) (by simp; omega)).trans cr
  have HO3 := hid hown3
  have HGT := hid hlt
  clear hgrow hat hown3 c0 c1 cp cq cr hlt
  go_wp2_with fail
  rw [rounds_succ]
  go_wp2_with fail
  have u0 := u8w (b / 16777216) (by omega) (by omega)
  have u1 := u8w (b / 65536 % 256) (by omega) (by omega)
  have u2 := u8w (b / 256 % 256) (by omega) (by omega)
  have u3 := u8w (b % 256) (by omega) (by omega)
  have e1 := m255 (b / 65536) (by omega) (by omega)
  have e2 := m255 (b / 256) (by omega) (by omega)
  have e3 := m255 b (by omega) (by omega)
  go_region_held3 (fun w' => w'.cell? ⟨w.heap.size + 1, 1, none⟩ = some (.int .u32 b))
    (first
      | go_keep
      | ((rw [hgrow.cell_far _ (by simp; omega) (by simp [Value.ownBlock]; omega)]; assumption)))
    ((refine step_append_lies _ (by rfl) _ _ _ (by rfl) w2.heap.size 5 i0 _ 1 1 Try.underlying25 Hi.out Hz0.out Hz1.out Hz2.out rfl (by omega) (.slice (some ⟨gg, 0, none⟩) 4 cap) 4 _ (by rfl) ((HO3.out.alloc _).drew)
        ⟨w3.heap.size, 0, none⟩ 4 4 [.int .u8 (b / 16777216), .int .u8 (b / 65536 % 256), .int .u8 (b / 256 % 256), .int .u8 (b % 256)] (by rfl) (by rfl)
        (World.news_of_block (cs := #[.int .u8 (b / 16777216), .int .u8 (b / 65536 % 256), .int .u8 (b / 256 % 256), .int .u8 (b % 256)]) (t := 5) (fr := (0, 0)) (heap_alloc_new w3 _)) (by simp [Value.oneCell'])
        (by omega) (by unfold maxLen; omega) (by omega) (by simp; omega) (w3.heap.size + 1) (by simp) ?_; intro gg5 cap5 w5 hown5 hgrow hat hlt))
  clear u0 u1 u2 u3 e1 e2 e3
  have hb5 : Below w2.heap.size w2 w5 := hb3.trans (below_app2 hs3 (by omega) hgrow)
  have hs5 := hb5.size
  have gp5 := (hb5.cell (p := ⟨w.heap.size, 2, none⟩) (by simp; omega)).trans ((hb3.cell (p := ⟨w.heap.size, 2, none⟩) (by simp; omega)).symm.trans gp)
  have gq5 := (hb5.cell (p := ⟨w.heap.size, 3, none⟩) (by simp; omega)).trans ((hb3.cell (p := ⟨w.heap.size, 3, none⟩) (by simp; omega)).symm.trans gq)
  have gr5 := (hb5.cell (p := ⟨w.heap.size, 4, none⟩) (by simp; omega)).trans ((hb3.cell (p := ⟨w.heap.size, 4, none⟩) (by simp; omega)).symm.trans gr)
  have HO5 := hid hown5
  have HB5 := hid hb5
  clear hgrow hat hown5 hlt gp gq gr g1 hb3 hs3
  go_wp2_with fail
  rw [rounds_succ]
  obtain ⟨m1, m2⟩ := (⟨m255i q k3 (by omega), m255i r k5 (by omega)⟩ : _ ∧ _)
  go_wp2_with (at_builtin; refine wpList_append_own _ rfl _ _ 25 rfl w2.heap.size 5 i0 (.int .u8 0) 1 1 Try.underlying25 Hi.out Hz0.out Hz1.out Hz2.out rfl (by decide) _ _ _ rfl (HO5.out.alloc _) ⟨w5.heap.size, 0, none⟩ 5 5 (bcells [byt p, byt (q / 256), byt q, byt (r / 256), byt r]) rfl rfl (new_row (row5 k1 k2 k3 k4 k5 k6)) (bcells_one _) (by unfold maxLen; omega) (by omega) (by simp; omega) ?_; intro v6 w6 hown6 hg6 _)
  go_ret
  have hb6 : Below w2.heap.size w2 w6 := HB5.out.trans (below_app3 hs5 HO5.out hg6)
  refine ⟨_, rfl, own_base (by omega) (row13 f1 f2 f3 f4 Hk.out hown6), ?_⟩
  have hb2 : Below w.heap.size w w2 := by
    rw [HW.out]
    exact ((Below.refl _ _).alloc (Nat.le_refl _) _).alloc (by simp) _
  exact hb2.trans (hb6.mono (by omega))
end Go.Proofs.Ytmhedmjealggfaa
