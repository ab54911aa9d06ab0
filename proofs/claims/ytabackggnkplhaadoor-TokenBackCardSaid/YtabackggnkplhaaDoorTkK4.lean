/- What the landed token's told answers (at ac8f435), and the closure in it. -/
import Derived.Test.YtabackggnkplhaaDoorTkK1
import Derived.Test.YtabackggnkplhaaDoorNum
import Derived.Test.YtabackggnkplhaaDoorCutB
import Derived.Test.YtabackggnkplhaaDoorRtk3
import Derived.Deep.RegionHeld3
import Derived.Deep.CutRange
namespace Go.Proofs.YtabackggnkplhaaDoor
open Go.RowKit
set_option maxRecDepth 20000

/-- one number taken off what is left, if the packet has it -/
def tkTake (h : Bool) (l : List UInt8) (ok : Bool) : Nat × List UInt8 × Bool := if h = false then (0, l, ok) else if l.length < 8 then (0, l, false) else (numOf (l.take 8), l.drop 8, ok)
/-- what the closure's three variables hold: the packet, what is left, whether there was enough -/
def TkS (wb w0 w : World) (gt gr go : Nat) (q x y z : Nat) (l : List UInt8) (ok : Bool) : Prop :=
  gt ≠ gr ∧ gt ≠ go ∧ gr ≠ go ∧ w0.heap.size ≤ gt ∧ w0.heap.size ≤ gr ∧ w0.heap.size ≤ go ∧ Below w0.heap.size w0 w ∧
  w.heap[gt]? = some (.cells #[.int .i64 (q : Int), .int .u64 (x : Int), .int .u64 (y : Int), .int .u64 (z : Int), .slice none 0 0] 25 (0, 0)) ∧ w.heap[go]? = some (.cells #[.bool ok] 4 (0, 0)) ∧
  Below wb.heap.size wb w0 ∧ ∃ A m c, w.heap[gr]? = some (.cells #[.slice A m c] 23 (0, 0)) ∧ Bys wb A m c l
theorem TkS.put {wb w0 w : World} {gt gr go : Nat} {q x y z : Nat} {l : List UInt8} {ok : Bool} (h : TkS wb w0 w gt gr go q x y z l ok) (v : Nat) :
    TkS wb w0 (w.setCell ⟨gt, 1, none⟩ (.int .u64 (v : Int))) gt gr go q v y z l ok ∧ TkS wb w0 (w.setCell ⟨gt, 2, none⟩ (.int .u64 (v : Int))) gt gr go q x v z l ok ∧ TkS wb w0 (w.setCell ⟨gt, 3, none⟩ (.int .u64 (v : Int))) gt gr go q x y v l ok := by
  obtain ⟨h1, h2, h3, h4, h5, h6, T, b0, b2, Tb, A, m, c, b1, B⟩ := h
  refine ⟨⟨h1, h2, h3, h4, h5, h6, T.setCell h4 _, heap_setCell_same _ _ _ _ _ _ b0, (Below.heap_setCell w _ _ _ (Ne.symm h2)).trans b2, Tb, A, m, c, (Below.heap_setCell w _ _ _ (Ne.symm h1)).trans b1, B⟩,
    ⟨h1, h2, h3, h4, h5, h6, T.setCell h4 _, heap_setCell_same _ _ _ _ _ _ b0, (Below.heap_setCell w _ _ _ (Ne.symm h2)).trans b2, Tb, A, m, c, (Below.heap_setCell w _ _ _ (Ne.symm h1)).trans b1, B⟩,
    ⟨h1, h2, h3, h4, h5, h6, T.setCell h4 _, heap_setCell_same _ _ _ _ _ _ b0, (Below.heap_setCell w _ _ _ (Ne.symm h2)).trans b2, Tb, A, m, c, (Below.heap_setCell w _ _ _ (Ne.symm h1)).trans b1, B⟩⟩
theorem TkS.row {wb w0 w : World} {gt gr go : Nat} {q x y z : Nat} {l : List UInt8} {ok : Bool} (h : TkS wb w0 w gt gr go q x y z l ok) :
    (w.cell? ⟨gt, 0, none⟩ = some (.int .i64 (q : Int)) ∧ w.cell? ⟨gt, 1, none⟩ = some (.int .u64 (x : Int)) ∧ w.cell? ⟨gt, 2, none⟩ = some (.int .u64 (y : Int)) ∧ w.cell? ⟨gt, 3, none⟩ = some (.int .u64 (z : Int)) ∧ w.cell? ⟨gt, 4, none⟩ = some (.slice none 0 0)) ∧ w.frozen? ⟨gt, 0, none⟩ = false ∧ w.frozen? ⟨gt, 1, none⟩ = false ∧ w.frozen? ⟨gt, 2, none⟩ = false ∧ w.frozen? ⟨gt, 3, none⟩ = false ∧ w.frozen? ⟨gt, 4, none⟩ = false :=
  row5 h.2.2.2.2.2.2.2.1
def GivesTake (wb w0 : World) (gt gr go : Nat) (q x y z : Nat) (r : Nat × List UInt8 × Bool) (e : Ending) (w' : World) : Prop := e = .returned (.int .u64 (r.1 : Int)) ∧ TkS wb w0 w' gt gr go q x y z r.2.1 r.2.2
set_option maxHeartbeats 4000000 in
theorem tktake_any (q i : Nat) (hq : q < 4) (hi : i < 3) (x y z : Nat) (gt gr go : Nat) (l : List UInt8) (ok : Bool) (wb w0 w : World) (hT : Tab15 w0) (h : TkS wb w0 w gt gr go q x y z l ok) :
    Calls Tryd.prog 25 #[.int .i64 (i : Int), .pointer (some ⟨gt, 0, none⟩), .pointer (some ⟨gr, 0, none⟩), .pointer (some ⟨go, 0, none⟩)] w (GivesTake wb w0 gt gr go q x y z (tkTake (tkHas q i) l ok)) := by
  have HH := Lib.hid h
  obtain ⟨h1, h2, h3, h4, h5, h6, T, b0, b2, Tb, A, m, c, b1, B⟩ := h
  obtain ⟨⟨c0, _, _, _, _⟩, _, _, _, _, _⟩ := row5 b0
  have c1 := cell_of_one b1
  have f1 := free_of_one b1
  have c2 := cell_of_one b2
  have f2 := free_of_one b2
  have ca := ((tab15_keep _ _ hT T).2 q hq).1 i hi
  have hq4 : decide ((q : Int) < 4) = true := by simp; omega
  have hi3 : decide ((i : Int) < 3) = true := by simp; omega
  have hl := B.len
  have hle := B.le
  have hcap := B.cap
  generalize tkHas q i = b at *
  cases b with
  | false =>
    have e : tkTake false l ok = (0, l, ok) := by unfold tkTake; rw [if_pos rfl]
    rw [e]
    clear hT T b0 b1 b2 B hl hle hcap e
    go_enter Tryd.func25, Tryd.ntmps25
    go_wp2
    go_ret
    exact ⟨rfl, HH.out⟩
  | true =>
    by_cases hm : m < 8
    · have e : tkTake true l ok = (0, l, false) := by unfold tkTake; rw [if_neg (by decide), if_pos (by omega)]
      rw [e]
      have hd : decide ((m : Int) < 8) = true := by simp; omega
      have HE : Hid (TkS wb w0 (w.setCell ⟨go, 0, none⟩ (.bool false)) gt gr go q x y z l false) :=
        ⟨h1, h2, h3, h4, h5, h6, T.setCell h6 _, (Below.heap_setCell w _ _ _ h2).trans b0, one_setCell b2, Tb, A, m, c, (Below.heap_setCell w _ _ _ h3).trans b1, B⟩
      clear hT T b0 b1 b2 B hl hle hcap e HH
      go_enter Tryd.func25, Tryd.ntmps25
      go_wp2
      go_ret
      exact ⟨rfl, HE.out⟩
    · have e : tkTake true l ok = (numOf (l.take 8), l.drop 8, ok) := by unfold tkTake; rw [if_neg (by decide), if_neg (by omega)]
      rw [e]
      have hd : decide ((m : Int) < 8) = false := by simp; omega
      obtain ⟨s1, s1', B1⟩ := cut_op_hi B 8 (by omega)
      have B2 := B.drop 8 (by omega)
      have HN := Lib.hid (numB_of (l.take 8) (by simp; omega) ▸ number_any A 8 c (l.take 8) w (B1.below (nxt Tb T)))
      have HE : Hid (∀ A2, Bys wb A2 (m - 8) (c - 8) (l.drop 8) → TkS wb w0 (w.setCell ⟨gr, 0, none⟩ (.slice A2 (m - 8) (c - 8))) gt gr go q x y z (l.drop 8) ok) := fun A2 B2 =>
        ⟨h1, h2, h3, h4, h5, h6, T.setCell h5 _, (Below.heap_setCell w _ _ _ h1).trans b0, (Below.heap_setCell w _ _ _ (Ne.symm h3)).trans b2, Tb, A2, m - 8, c - 8, one_setCell b1, B2⟩
      obtain ⟨b', o', rfl, _, _⟩ := B.at_ (by omega)
      by_cases hc : c = 8
      · have hc' : (c = 8) = True := by simp [hc]
        rw [if_pos hc] at B2
        have HF := Lib.hid (HE.out _ B2)
        generalize numOf (l.take 8) = v at *
        clear hT T b0 b1 b2 B hl e HH B1 B2 HE hc
        go_enter Tryd.func25, Tryd.ntmps25
        go_wp2_with (fail)
        refine HN.out.mono ?_
        rintro e w1 ⟨rfl, rfl⟩
        go_wp2
        go_ret
        exact ⟨rfl, HF.out⟩
      · have hc' : (c = 8) = False := by simp [hc]
        rw [if_neg hc] at B2
        have HF := Lib.hid (HE.out _ B2)
        have e2 : (some (⟨b', o', none⟩ : Addr)).map (·.add 8) = some ⟨b', o' + 8, none⟩ := rfl
        rw [e2] at HF
        generalize numOf (l.take 8) = v at *
        clear hT T b0 b1 b2 B hl e HH B1 B2 HE hc e2
        go_enter Tryd.func25, Tryd.ntmps25
        go_wp2_with (fail)
        refine HN.out.mono ?_
        rintro e w1 ⟨rfl, rfl⟩
        go_wp2
        go_ret
        exact ⟨rfl, HF.out⟩
/-- what bytes tell, whether right or not, and whether they tell anything -/
def tkTold : List UInt8 → (Nat × Nat × Nat × Nat × List UInt8) × Bool
  | [] => (tkZero, false)
  | b :: l => if b.toNat < 4 then
      let r0 := tkTake (tkHas b.toNat 0) l true
      let r1 := tkTake (tkHas b.toNat 1) r0.2.1 r0.2.2
      let r2 := tkTake (tkHas b.toNat 2) r1.2.1 r1.2.2
      ((b.toNat, r0.1, r1.1, r2.1, r2.2.1), r2.2.2)
    else (tkZero, false)
def GivesTd (w : World) (v : (Nat × Nat × Nat × Nat × List UInt8) × Bool) (e : Ending) (w' : World) : Prop :=
  ∃ A n c, e = .returned (.tuple #[.agg #[.int .i64 (v.1.1 : Int), .int .u64 (v.1.2.1 : Int), .int .u64 (v.1.2.2.1 : Int), .int .u64 (v.1.2.2.2.1 : Int), .slice A n c], .bool v.2]) ∧ Bys w' A n c v.1.2.2.2.2 ∧ Below w.heap.size w w'
set_option maxHeartbeats 4000000 in
theorem tktold_nil (A : Option Addr) (c : Nat) (w : World) :
    Calls Tryd.prog 20 #[.slice A 0 c] w (GivesTd w (tkZero, false)) := by
  go_enter Tryd.func20, Tryd.ntmps20
  go_wp2
  (try simp only [Exit.inBlock, Exit.then])
  refine bodyPost_ret (v := .tuple #[.agg #[.int .i64 0, .int .u64 0, .int .u64 0, .int .u64 0, .slice none 0 0], .bool false]) (res_cell_tmp rfl _ _ w.heap.size 25 #[.int .i64 0, .int .u64 0, .int .u64 0, .int .u64 0, .slice none 0 0] (0, 0) _ _ rfl rfl (heap_alloc_new w _) Tryd.underlying25 rfl (by kernel_rfl)) rfl ?_
  exact ⟨_, _, _, rfl, Bys.nil _, (Below.refl _ _).alloc (Nat.le_refl _) _⟩
set_option maxHeartbeats 4000000 in
theorem tktold_no (A : Option Addr) (n c : Nat) (b : UInt8) (l : List UInt8) (w : World) (hB : Bys w A n c (b :: l)) (hb : 4 ≤ b.toNat) :
    Calls Tryd.prog 20 #[.slice A n c] w (GivesTd w (tkZero, false)) := by
  have hl := hB.len
  simp at hl
  obtain ⟨g, o, rfl, hg, hc⟩ := hB.at_ (by omega)
  have T0 : Below w.heap.size w (w.alloc (.cells #[.int .i64 0, .int .u64 0, .int .u64 0, .int .u64 0, .slice none 0 0] 25)) := (Below.refl _ w).alloc (Nat.le_refl _) _
  have q1 := (T0.cell (p := ⟨g, o, none⟩) hg).trans (hc 0 (by simp))
  simp only [List.getElem_cons_zero] at q1
  have hd : decide ((n : Int) < 1) = false := by simp; omega
  have hn0 : 0 < n := by omega
  have hwb : wrap64 (b.toNat : Int) = (b.toNat : Int) := IntWalk.wrap64_in _ (by have := b.toNat_lt; omega)
  have HK := Lib.hid (fun W => tkkind_any (b.toNat : Int) W)
  rw [show tkKind (b.toNat : Int) = false by unfold tkKind; simp; omega] at HK
  have hwb : wrap64 (b.toNat : Int) = (b.toNat : Int) := IntWalk.wrap64_in _ (by have := b.toNat_lt; omega)
  clear hc hB hb
  generalize (b.toNat : Int) = h at *
  go_enter Tryd.func20, Tryd.ntmps20
  go_wp2_with (fail)
  refine (HK.out _).mono ?_
  rintro e w1 ⟨rfl, rfl⟩
  go_wp2
  (try simp only [Exit.inBlock, Exit.then])
  refine bodyPost_ret (v := .tuple #[.agg #[.int .i64 0, .int .u64 0, .int .u64 0, .int .u64 0, .slice none 0 0], .bool false]) (res_cell_tmp rfl _ _ w.heap.size 25 #[.int .i64 0, .int .u64 0, .int .u64 0, .int .u64 0, .slice none 0 0] (0, 0) _ _ rfl rfl (heap_alloc_new w _) Tryd.underlying25 rfl (by kernel_rfl)) rfl ?_
  exact ⟨_, _, _, rfl, Bys.nil _, T0⟩
theorem rows_three (W : World) (a b c : Obj) : (((W.alloc a).alloc b).alloc c).heap[W.heap.size]? = some a ∧ (((W.alloc a).alloc b).alloc c).heap[W.heap.size + 1]? = some b ∧ (((W.alloc a).alloc b).alloc c).heap[W.heap.size + 1 + 1]? = some c := by
  obtain ⟨h0, h1⟩ := two_rows (w := W) (a := a) (b := b) (Below.refl _ _)
  have h2 := heap_alloc_new ((W.alloc a).alloc b) c
  have e : ((W.alloc a).alloc b).heap.size = W.heap.size + 1 + 1 := by simp
  rw [e] at h2
  exact ⟨hp_old h0 _, hp_old h1 _, h2⟩
theorem rows_four (w : World) (z a b c : Obj) : ((((w.alloc z).alloc a).alloc b).alloc c).drew.heap[w.heap.size + 1]? = some a ∧ ((((w.alloc z).alloc a).alloc b).alloc c).drew.heap[w.heap.size + 1 + 1]? = some b ∧ ((((w.alloc z).alloc a).alloc b).alloc c).drew.heap[w.heap.size + 1 + 1 + 1]? = some c ∧ Below (w.alloc z).heap.size (w.alloc z) ((((w.alloc z).alloc a).alloc b).alloc c).drew := by
  have h := rows_three (w.alloc z) a b c
  have e : (w.alloc z).heap.size = w.heap.size + 1 := by simp
  rw [e] at h
  exact ⟨h.1, h.2.1, h.2.2, below_drewN' ((((Below.refl _ _).alloc (Nat.le_refl _) a).alloc (by simp) b).alloc (by simp) c) 1⟩
theorem cell_alloc {W : World} {p : Addr} {v : Value} (h : W.cell? p = some v) (o : Obj) : (W.alloc o).cell? p = some v :=
  (((Below.refl W.heap.size W).alloc (Nat.le_refl _) o).cell (block_lt_of_cell h)).trans h
abbrev ZTk : Obj := .cells #[.int .i64 0, .int .u64 0, .int .u64 0, .int .u64 0, .slice none 0 0] 25
set_option maxHeartbeats 8000000 in
theorem tktold_yes (A : Option Addr) (n c : Nat) (b : UInt8) (l : List UInt8) (w : World) (hT : Tab15 w) (hB : Bys w A n c (b :: l)) (hb : b.toNat < 4) :
    Calls Tryd.prog 20 #[.slice A n c] w (GivesTd w (tkTold (b :: l))) := by
  have hl := hB.len
  simp at hl
  obtain ⟨g, o, rfl, hg, hc⟩ := hB.at_ (by omega)
  have T0 : Below w.heap.size w (w.alloc (.cells #[.int .i64 0, .int .u64 0, .int .u64 0, .int .u64 0, .slice none 0 0] 25)) := (Below.refl _ w).alloc (Nat.le_refl _) _
  have q1 := (T0.cell (p := ⟨g, o, none⟩) hg).trans (hc 0 (by simp))
  simp only [List.getElem_cons_zero] at q1
  have hwb : wrap64 (b.toNat : Int) = (b.toNat : Int) := IntWalk.wrap64_in _ (by have := b.toNat_lt; omega)
  have hwi : IntKind.i64.wrap (b.toNat : Int) = (b.toNat : Int) := IntWalk.i64_in _ (by have := b.toNat_lt; omega)
  have B2 := hB.drop 1 (by omega)
  simp only [List.drop_succ_cons, List.drop_zero] at B2
  have hd : decide ((n : Int) < 1) = false := by simp; omega
  have hn0 : 0 < n := by omega
  have HK := Lib.hid (fun W => tkkind_any (b.toNat : Int) W)
  rw [show tkKind (b.toNat : Int) = true by unfold tkKind; simp; omega] at HK
  have hmf : ∀ (fn : Fn) (first cap : Array Value) (w : World), (Instr.makeFunc fn first cap).run Tryd.prog w = .ok (.func fn first cap) w := fun _ _ _ _ => rfl
  have hle := hB.le
  have hcap := hB.cap
  have hci : (1 : Int) ≤ (c : Int) := by omega
  have HT1 := Lib.hid (tab15_keep _ _ hT T0)
  have HB2 := Lib.hid B2
  have HZ := Lib.hid (heap_alloc_new w (.cells #[.int .i64 0, .int .u64 0, .int .u64 0, .int .u64 0, .slice none 0 0] 25))
  have HT0 := Lib.hid T0
  have hws : w.heap.size < (w.alloc (.cells #[.int .i64 0, .int .u64 0, .int .u64 0, .int .u64 0, .slice none 0 0] 25)).heap.size := by simp
  have HR : Hid (tkTold (b :: l) = ((b.toNat, (tkTake (tkHas b.toNat 0) l true).1, (tkTake (tkHas b.toNat 1) (tkTake (tkHas b.toNat 0) l true).2.1 (tkTake (tkHas b.toNat 0) l true).2.2).1, (tkTake (tkHas b.toNat 2) (tkTake (tkHas b.toNat 1) (tkTake (tkHas b.toNat 0) l true).2.1 (tkTake (tkHas b.toNat 0) l true).2.2).2.1 (tkTake (tkHas b.toNat 1) (tkTake (tkHas b.toNat 0) l true).2.1 (tkTake (tkHas b.toNat 0) l true).2.2).2.2).1, (tkTake (tkHas b.toNat 2) (tkTake (tkHas b.toNat 1) (tkTake (tkHas b.toNat 0) l true).2.1 (tkTake (tkHas b.toNat 0) l true).2.2).2.1 (tkTake (tkHas b.toNat 1) (tkTake (tkHas b.toNat 0) l true).2.1 (tkTake (tkHas b.toNat 0) l true).2.2).2.2).2.1), (tkTake (tkHas b.toNat 2) (tkTake (tkHas b.toNat 1) (tkTake (tkHas b.toNat 0) l true).2.1 (tkTake (tkHas b.toNat 0) l true).2.2).2.1 (tkTake (tkHas b.toNat 1) (tkTake (tkHas b.toNat 0) l true).2.1 (tkTake (tkHas b.toNat 0) l true).2.2).2.2).2.2)) := by
    show _ = _
    simp only [tkTold]
    rw [if_pos hb]
  generalize tkTold (b :: l) = R at *
  generalize b.toNat = q at *
  clear hc hB T0 hT B2
  go_enter Tryd.func20, Tryd.ntmps20
  go_wp2_with (fail)
  refine (HK.out _).mono ?_
  rintro e w1 ⟨rfl, rfl⟩
  go_upto_region 3 with fail
  go_cut [4, 5, 6] from 20 (fun v4 v5 v6 wx => ∃ gt gr go, v4 = .pointer (some ⟨gt, 0, none⟩) ∧ v5 = .pointer (some ⟨gr, 0, none⟩) ∧ v6 = .pointer (some ⟨go, 0, none⟩) ∧ TkS w (w.alloc ZTk) wx gt gr go q 0 0 0 l true)
  case first =>
    have B2 := HB2.out
    by_cases hc1 : c = 1
    · rw [if_pos hc1] at B2
      have HB2 := Lib.hid B2
      have s2 : ∀ W, (Instr.sliceAt 23 (.slice (some ⟨g, o, none⟩) n c) (some (.int .i64 1)) none none).run Tryd.prog W = .ok (.slice (some ⟨g, o, none⟩) (n - 1) (c - 1)) W := fun W => by
        have := (at_slice _ _ _ _ W).trans (slice_lo (some ⟨g, o, none⟩) n c 1 (by omega) W)
        rwa [if_pos hc1] at this
      have s3 : ∀ W, (Instr.slice 23 (.slice (some ⟨g, o, none⟩) n c) (some (.int .i64 1)) none none).run Tryd.prog W = .ok (.slice (some ⟨g, o, none⟩) (n - 1) (c - 1)) W := fun W => by
        have := slice_lo (some ⟨g, o, none⟩) n c 1 (by omega) W
        rwa [if_pos hc1] at this
      clear B2 hc1
      go_region_held3 (fun w' => w'.cell? ⟨g, o, none⟩ = some (.int .u8 (q : Int))) (first | exact q1 | exact cell_alloc q1 _ | exact cell_alloc (cell_alloc q1 _) _ | exact cell_alloc (cell_alloc (cell_alloc q1 _) _) _)
        (first | fail)
      all_goals
        go_wp2_with fail
        go_meet
      all_goals
        refine ⟨_, _, _, rfl, rfl, rfl, by omega, by omega, by omega, by simp, by simp, by simp, (rows_four _ _ _ _ _).2.2.2, by first | exact (rows_four _ _ _ _ _).1 | exact (rows_four _ _ _ _ _).2.1 | exact (rows_four _ _ _ _ _).2.2.1, by first | exact (rows_four _ _ _ _ _).1 | exact (rows_four _ _ _ _ _).2.1 | exact (rows_four _ _ _ _ _).2.2.1, HT0.out, _, _, _, by first | exact (rows_four _ _ _ _ _).1 | exact (rows_four _ _ _ _ _).2.1 | exact (rows_four _ _ _ _ _).2.2.1, HB2.out⟩
    · rw [if_neg hc1] at B2
      have e2 : (some (⟨g, o, none⟩ : Addr)).map (·.add 1) = some ⟨g, o + 1, none⟩ := rfl
      rw [e2] at B2
      have HB2 := Lib.hid B2
      have s2 : ∀ W, (Instr.sliceAt 23 (.slice (some ⟨g, o, none⟩) n c) (some (.int .i64 1)) none none).run Tryd.prog W = .ok (.slice (some ⟨g, o + 1, none⟩) (n - 1) (c - 1)) W := fun W => by
        have := (at_slice _ _ _ _ W).trans (slice_lo (some ⟨g, o, none⟩) n c 1 (by omega) W)
        rwa [if_neg hc1] at this
      have s3 : ∀ W, (Instr.slice 23 (.slice (some ⟨g, o, none⟩) n c) (some (.int .i64 1)) none none).run Tryd.prog W = .ok (.slice (some ⟨g, o + 1, none⟩) (n - 1) (c - 1)) W := fun W => by
        have := slice_lo (some ⟨g, o, none⟩) n c 1 (by omega) W
        rwa [if_neg hc1] at this
      clear B2 hc1 e2
      go_region_held3 (fun w' => w'.cell? ⟨g, o, none⟩ = some (.int .u8 (q : Int))) (first | exact q1 | exact cell_alloc q1 _ | exact cell_alloc (cell_alloc q1 _) _ | exact cell_alloc (cell_alloc (cell_alloc q1 _) _) _)
        (first | fail)
      all_goals
        go_wp2_with fail
        go_meet
      all_goals
        refine ⟨_, _, _, rfl, rfl, rfl, by omega, by omega, by omega, by simp, by simp, by simp, (rows_four _ _ _ _ _).2.2.2, by first | exact (rows_four _ _ _ _ _).1 | exact (rows_four _ _ _ _ _).2.1 | exact (rows_four _ _ _ _ _).2.2.1, by first | exact (rows_four _ _ _ _ _).1 | exact (rows_four _ _ _ _ _).2.1 | exact (rows_four _ _ _ _ _).2.2.1, HT0.out, _, _, _, by first | exact (rows_four _ _ _ _ _).1 | exact (rows_four _ _ _ _ _).2.1 | exact (rows_four _ _ _ _ _).2.2.1, HB2.out⟩
  case rest =>
  obtain ⟨gt, gr, go, rfl, rfl, rfl, h0⟩ := hcut
  have H0 := Lib.hid (tktake_any q 0 hb (by decide) 0 0 0 gt gr go l true _ _ _ HT1.out h0)
  generalize tkTake (tkHas q 0) l true = r0 at *
  clear h0 hwb hwi hd q1
  go_wp2_with (fail)
  refine H0.out.mono ?_
  rintro e w1 ⟨rfl, h1⟩
  have H1 := Lib.hid (tktake_any q 1 hb (by decide) r0.1 0 0 gt gr go r0.2.1 r0.2.2 _ _ _ HT1.out (h1.put r0.1).1)
  generalize tkTake (tkHas q 1) r0.2.1 r0.2.2 = r1 at *
  obtain ⟨⟨a0, a1, a2, a3, a4⟩, f0, f1, f2, f3, f4⟩ := h1.row
  clear h1
  go_wp2_with (fail)
  refine H1.out.mono ?_
  rintro e w2 ⟨rfl, h2⟩
  have H2 := Lib.hid (tktake_any q 2 hb (by decide) r0.1 r1.1 0 gt gr go r1.2.1 r1.2.2 _ _ _ HT1.out (h2.put r1.1).2.1)
  generalize tkTake (tkHas q 2) r1.2.1 r1.2.2 = r2 at *
  clear a0 a1 a2 a3 a4 f0 f1 f2 f3 f4
  obtain ⟨⟨a0, a1, a2, a3, a4⟩, f0, f1, f2, f3, f4⟩ := h2.row
  clear h2
  go_wp2_with (fail)
  refine H2.out.mono ?_
  rintro e w3 ⟨rfl, h3⟩
  clear a0 a1 a2 a3 a4 f0 f1 f2 f3 f4
  obtain ⟨⟨a0, a1, a2, a3, a4⟩, f0, f1, f2, f3, f4⟩ := h3.row
  have h4 := (h3.put r2.1).2.2
  clear h3
  go_upto_region 8 with fail
  generalize (w3.setCell ⟨gt, 3, none⟩ (.int .u64 (r2.1 : Int))) = w4 at *
  clear a0 a1 a2 a3 a4 f0 f1 f2 f3 f4
  obtain ⟨⟨a0, a1, a2, a3, a4⟩, f0, f1, f2, f3, f4⟩ := h4.row
  obtain ⟨n1, n2, n3, l1, l2, l3, T4, b0, b2, Tb4, A4, m4, k4, b1, B4⟩ := h4
  have cr := cell_of_one b1
  have c2 := (Below.heap_setCell w4 ⟨gt, 4, none⟩ (.slice A4 m4 k4) go (Ne.symm n2)).trans b2
  have T5 := T4.setCell (p := ⟨gt, 4, none⟩) l1 (.slice A4 m4 k4)
  have b5 := heap_setCell_same w4 gt 4 _ _ (.slice A4 m4 k4) b0
  have z5 := (T5.block _ hws).trans HZ.out
  go_upto_region 9 with fail
  generalize (w4.setCell ⟨gt, 4, none⟩ (.slice A4 m4 k4)) = w5 at *
  clear a0 a1 a2 a3 a4 f0 f1 f2 f3 f4 cr b0 b1 b2
  have ng : w.heap.size ≠ gt := by have := l1; simp at this; omega
  obtain ⟨⟨a0, a1, a2, a3, a4⟩, f0, f1, f2, f3, f4⟩ := row5 b5
  obtain ⟨⟨e0, e1, e2, e3, e4⟩, p0, p1, p2, p3, p4⟩ := row5 z5
  have co := cell_of_one c2
  have Z5 := Lib.hid z5
  have HB4 := Lib.hid B4
  have HT5 := Lib.hid (nxt HT0.out T5)
  clear z5 b5 c2 T5 T4 B4 Tb4
  go_region
  all_goals
    go_wp2_with (fail)
    (try simp only [Exit.inBlock, Exit.then])
    refine bodyPost_ret (v := .tuple #[.agg #[.int .i64 (q : Int), .int .u64 (r0.1 : Int), .int .u64 (r1.1 : Int), .int .u64 (r2.1 : Int), .slice A4 m4 k4], .bool r2.2.2]) (res_cell_tmp rfl _ _ w.heap.size 25 #[.int .i64 (q : Int), .int .u64 (r0.1 : Int), .int .u64 (r1.1 : Int), .int .u64 (r2.1 : Int), .slice A4 m4 k4] (0, 0) _ _ rfl rfl (stored5 Z5.out _ _ _ _ _) Tryd.underlying25 rfl (by kernel_rfl)) rfl ?_
    have HF := below_drewN' (below5 HT5.out (Nat.le_refl _) (.int .i64 (q : Int)) (.int .u64 (r0.1 : Int)) (.int .u64 (r1.1 : Int)) (.int .u64 (r2.1 : Int)) (.slice A4 m4 k4)) 1
    rw [HR.out]
    exact ⟨A4, m4, k4, rfl, HB4.out.below HF, HF⟩
end Go.Proofs.YtabackggnkplhaaDoor
