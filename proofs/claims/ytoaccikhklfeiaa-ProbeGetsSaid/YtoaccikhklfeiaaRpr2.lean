/- What kedgeref13's Put, Get, Same answer. -/
import Derived.Test.YtoaccikhklfeiaaRpr1
import Derived.Test.YtoaccikhklfeiaaRcopy
import Derived.Test.YtoaccikhklfeiaaSame
import Derived.Test.YtoaccikhklfeiaaResC
import Derived.Deep.RegionHeld3
namespace Go.Proofs.Ytoaccikhklfeiaa
open Go.RowKit
set_option maxRecDepth 20000

/-- A call's end that makes a []byte and a number of the kind int. -/
def GivesI (w : World) (r : Int) (l : List UInt8) (e : Ending) (w' : World) : Prop :=
  ∃ A n c, e = .returned (.tuple #[.slice A n c, .int .i64 r]) ∧ Bys w' A n c l ∧ Below w.heap.size w w'
/-- a literal of one byte is the call's own row -/
theorem own_lit1 (w : World) (x : UInt8) : (w.alloc (.cells #[.int .u8 (x.toNat : Int)] 5)).ownsRow w.heap.size 5 1 (.slice (some ⟨w.heap.size, 0, none⟩) 1 1) 1 (bvs [x]) := by
  have := World.ownsRow_lit (base := w.heap.size) (e := 5) (size := 1) w (bvs [x]).toArray 1 (Nat.le_refl _) (by unfold maxLen; omega) (by simp [bvs])
  simpa [bvs, bv] using this
set_option maxHeartbeats 4000000 in
theorem rpput_any (k l : Int) (A : Option Addr) (n c : Nat) (d : List UInt8) (w : World) (hB : Bys w A n c d) :
    Calls Try.prog 7 #[.agg #[.int .i64 k, .int .i64 l, .slice A n c]] w (GivesI w (prErr k l n) (prPut k l d)) := by
  have hl := hB.len
  have HR := Lib.hid (fun W => rpright_any k l A n c W)
  cases hr : prRight k l n with
  | false =>
    rw [prErr_no hr, prPut_no (by rw [hl]; exact hr)]
    rw [hr] at HR
    clear hB hr
    go_enter Try.func7, Try.ntmps7
    go_wp2_with (fail)
    refine (HR.out _).mono ?_
    rintro e w1 ⟨rfl, T1⟩
    have T1 := nxt ((Below.refl _ w).alloc (Nat.le_refl _) _) T1
    go_wp2
    go_ret2
    exact ⟨_, _, _, rfl, Bys.nil _, T1⟩
  | true =>
    have hn := prRight_le hr
    have hh := prHead_byte hr
    have hhl := prHead_lt hr
    have HH := Lib.hid (fun W => rphead_any k l A n c W hr)
    have e : prPut k l d = UInt8.ofNat (prHead k l).toNat :: d := by unfold prPut; rw [hl, if_pos hr]
    rw [prErr_yes hr, e]
    rw [hr] at HR
    clear e hr
    have hcast : ((UInt8.ofNat (prHead k l).toNat).toNat : Int) = prHead k l := by rw [hh]; omega
    clear hh hhl
    generalize UInt8.ofNat (prHead k l).toNat = x at *
    rw [← hcast] at HH
    clear hcast
    have HC := Lib.hid (fun W (k : Below w.heap.size w W) => hB.below k)
    have hcap := hB.cap
    have hle := hB.le
    clear hB
    go_enter Try.func7, Try.ntmps7
    go_wp2_with (fail)
    refine (HR.out _).mono ?_
    rintro e w1 ⟨rfl, T1⟩
    have T0 := (Below.refl _ w).alloc (Nat.le_refl _) (.cells #[.int .i64 k, .int .i64 l, .slice A n c] 24)
    have q1 : w1.heap[w.heap.size]? = some (.cells #[.int .i64 k, .int .i64 l, .slice A n c] 24 (0, 0)) := (T1.block _ (by simp)).trans (heap_alloc_new w _)
    have hz1 : w.heap.size < w1.heap.size := by have := T1.size; simp at this; omega
    have T1 := nxt T0 T1
    have p1 : w1.cell? ⟨w.heap.size, 0, none⟩ = some (.int .i64 k) ∧ w1.cell? ⟨w.heap.size, 1, none⟩ = some (.int .i64 l) ∧ w1.cell? ⟨w.heap.size, 2, none⟩ = some (.slice A n c) := ⟨cell_of_row _ _ _ _ _ _ q1, cell_of_row _ _ _ _ _ _ q1, cell_of_row _ _ _ _ _ _ q1⟩
    have P1 := Lib.hid p1
    clear p1 q1
    go_wp2_with (fail)
    go_region_held3 (fun w' => w'.cell? ⟨w.heap.size, 0, none⟩ = some (.int .i64 k) ∧ w'.cell? ⟨w.heap.size, 1, none⟩ = some (.int .i64 l) ∧ w'.cell? ⟨w.heap.size, 2, none⟩ = some (.slice A n c)) (first | exact P1.out | exact P2.out | exact P3.out _ | exact P4.out)
      (first
        | (go_at_call 19; (with_reducible refine (HH.out _).mono ?_); rintro e w2 ⟨rfl, T2⟩; have T2 := undrew T2; have P2 : Hid (w2.cell? ⟨w.heap.size, 0, none⟩ = some (.int .i64 k) ∧ w2.cell? ⟨w.heap.size, 1, none⟩ = some (.int .i64 l) ∧ w2.cell? ⟨w.heap.size, 2, none⟩ = some (.slice A n c)) := ⟨(T2.cell hz1).trans P1.out.1, (T2.cell hz1).trans P1.out.2.1, (T2.cell hz1).trans P1.out.2.2⟩; have hz2 : w.heap.size < w2.heap.size := Nat.lt_of_lt_of_le hz1 T2.size; have P3 : Hid (∀ o, (w2.alloc o).cell? ⟨w.heap.size, 0, none⟩ = some (.int .i64 k) ∧ (w2.alloc o).cell? ⟨w.heap.size, 1, none⟩ = some (.int .i64 l) ∧ (w2.alloc o).cell? ⟨w.heap.size, 2, none⟩ = some (.slice A n c)) := fun o => ⟨(((Below.refl w2.heap.size w2).alloc (Nat.le_refl _) o).cell hz2).trans P2.out.1, (((Below.refl w2.heap.size w2).alloc (Nat.le_refl _) o).cell hz2).trans P2.out.2.1, (((Below.refl w2.heap.size w2).alloc (Nat.le_refl _) o).cell hz2).trans P2.out.2.2⟩; have T2 := nxt T1 T2)
        | ((refine step_bys _ rfl (.tmp 9) (.tmp 11) rfl w2.heap.size (.slice (some ⟨w2.heap.size, 0, none⟩) 1 1) 1 (bvs [x]) rfl ?_ A n c d rfl ?_ ?_ ?_ ?_); (exact own_lit1 w2 x); (exact HC.out _ (T2.alloc T2.size _)); (omega); (simp); intro v3 w3 hown3 hgrow3 hwhere3; have hbk := hgrow3.block w.heap.size (by simp; omega) (by simp [Value.ownBlock]; omega); have P4 : Hid (w3.cell? ⟨w.heap.size, 0, none⟩ = some (.int .i64 k) ∧ w3.cell? ⟨w.heap.size, 1, none⟩ = some (.int .i64 l) ∧ w3.cell? ⟨w.heap.size, 2, none⟩ = some (.slice A n c)) := ⟨(World.cell?_of_block hbk).trans (P3.out _).1, (World.cell?_of_block hbk).trans (P3.out _).2.1, (World.cell?_of_block hbk).trans (P3.out _).2.2⟩; clear hbk))
    all_goals
      obtain ⟨A3, c3, rfl⟩ := own_shape hown3
      rw [← bvs_append] at hown3
      have HO := Lib.hid (Bys.of_own hown3)
      have HT := Lib.hid ((T2.alloc T2.size (.cells #[.int .u8 (x.toNat : Int)] 5)).grown hgrow3 (by simp; have := T2.size; omega) (by intro k hk; simp [Value.ownBlock] at hk; omega))
      clear hown3 hgrow3
      go_wp2
      go_ret2
      exact ⟨_, _, _, rfl, HO.out, HT.out⟩
/-- A call's end that makes a packet and a number of the kind int. -/
def GivesPr (w : World) (k l : Int) (d : List UInt8) (r : Int) (e : Ending) (w' : World) : Prop :=
  ∃ A n c, e = .returned (.tuple #[.agg #[.int .i64 k, .int .i64 l, .slice A n c], .int .i64 r]) ∧ Bys w' A n c d ∧ Below w.heap.size w w'
set_option maxHeartbeats 4000000 in
theorem rpget_bad (A : Option Addr) (n c : Nat) (b : List UInt8) (w : World) (hB : Bys w A n c b) (hx : ∀ x d, b = x :: d → x.toNat = 3 ∨ 8 ≤ x.toNat) :
    Calls Try.prog 12 #[.slice A n c] w (GivesPr w 0 0 [] 130) := by
  have hl := hB.len
  match b, hB, hx with
  | [], hB, _ =>
    simp at hl
    subst hl
    clear hB
    go_enter Try.func12, Try.ntmps12
    go_wp2
    (try simp only [Exit.inBlock, Exit.then])
    refine bodyPost_ret (v := .tuple #[.agg #[.int .i64 0, .int .i64 0, .slice none 0 0], .int .i64 130]) (res_cell_tmp rfl _ _ w.heap.size 24 #[.int .i64 0, .int .i64 0, .slice none 0 0] (0, 0) _ _ rfl rfl (heap_alloc_new w _) Try.underlying24 rfl (by kernel_rfl)) rfl ?_
    exact ⟨_, _, _, rfl, Bys.nil _, (Below.refl _ _).alloc (Nat.le_refl _) _⟩
  | x :: d, hB, hx =>
    obtain ⟨g, o, rfl, hg, hc⟩ := hB.at_ (by simp at hl; omega)
    have q1 := hc 0 (by simp)
    have hx2 := hx x d rfl
    have hle := hB.le
    have hcap := hB.cap
    have hn0 : 0 < n := by simp at hl; omega
    simp only [List.getElem_cons_zero, Nat.add_zero] at q1
    clear hc hB hx hl
    have hx3 : (x.toNat : Int) = 3 ∨ 8 ≤ (x.toNat : Int) := by omega
    have hb : 0 ≤ (x.toNat : Int) ∧ (x.toNat : Int) < 256 := ⟨by omega, by have := x.toNat_lt; omega⟩
    generalize (x.toNat : Int) = h at *
    have hw : wrap64 h = h := by unfold wrap64; omega
    clear hx2
    have hn1 : ((n : Int) == 0) = false := by simp; omega
    have d4 : (h == 4) = false := by simp; omega
    have d5 : (h == 5) = false := by simp; omega
    have d6 : (h == 6) = false := by simp; omega
    have d7 : (h == 7) = false := by simp; omega
    have d2 : decide (2 < h) = true := by simp; omega
    go_enter Try.func12, Try.ntmps12
    go_wp2
    (try simp only [Exit.inBlock, Exit.then])
    refine bodyPost_ret (v := .tuple #[.agg #[.int .i64 0, .int .i64 0, .slice none 0 0], .int .i64 130]) (res_cell_tmp rfl _ _ w.heap.size 24 #[.int .i64 0, .int .i64 0, .slice none 0 0] (0, 0) _ _ rfl rfl (hp_old (heap_alloc_new w _) _) Try.underlying24 rfl (by kernel_rfl)) rfl ?_
    exact ⟨_, _, _, rfl, Bys.nil _, ((Below.refl _ _).alloc (Nat.le_refl _) _).alloc (by simp) _⟩
set_option maxHeartbeats 8000000 in
theorem rpget_one (A : Option Addr) (n c : Nat) (x : UInt8) (w : World) (hB : Bys w A n c [x]) (hx : x.toNat ≠ 3 ∧ x.toNat < 8) (K L : Int) (hK : prKind x.toNat = K) (hL : prLabel x.toNat = L) (R : Bool) (hR : prRight K L 0 = R) :
    Calls Try.prog 12 #[.slice A n c] w (GivesPr w (if R then K else 0) (if R then L else 0) [] (if R then 0 else 130)) := by
  have hl := hB.len
  obtain ⟨g, o, rfl, hg, hc⟩ := hB.at_ (by simp at hl; omega)
  obtain rfl : n = 1 := by simp at hl; omega
  have q1 := hc 0 (by simp)
  have hle := hB.le
  have hcap := hB.cap
  simp only [List.getElem_cons_zero, Nat.add_zero] at q1
  clear hc hB hl
  have hh : x.toNat = 4 ∨ x.toNat = 5 ∨ x.toNat = 6 ∨ x.toNat = 7 ∨ x.toNat < 3 := by omega
  have HR := Lib.hid (fun W => rpright_any K L none 0 0 W)
  rw [hR] at HR
  rcases hh with hh | hh | hh | hh | hh
  · rw [hh] at q1 hK hL
    obtain rfl : 3 = K := hK
    obtain rfl : 0 = L := hL
    cases R
    · clear hR hx hh
      go_enter Try.func12, Try.ntmps12
      go_wp2_with (fail)
      refine (HR.out _).mono ?_
      rintro e w1 ⟨rfl, T1⟩
      obtain ⟨b0, b1⟩ := two_rows T1
      have B0 := Lib.hid b0
      obtain ⟨c0, c1, c2, f0, f1, f2⟩ := row3 b0
      obtain ⟨c3, c4, c5, _, _, _⟩ := row3 b1
      have T1 := nxt (((Below.refl _ w).alloc (Nat.le_refl _) _).alloc (by simp) _) T1
      clear b0 b1
      go_wp2_with (fail)
      (try simp only [Exit.inBlock, Exit.then])
      refine bodyPost_ret (v := .tuple #[.agg #[.int .i64 0, .int .i64 0, .slice none 0 0], .int .i64 130]) (res_cell_tmp rfl _ _ w.heap.size 24 #[.int .i64 0, .int .i64 0, .slice none 0 0] (0, 0) _ _ rfl rfl (stored3 B0.out _ _ _) Try.underlying24 rfl (by kernel_rfl)) rfl ?_
      exact ⟨_, _, _, rfl, Bys.nil _, ((T1.setCell (Nat.le_refl _) _).setCell (Nat.le_refl _) _).setCell (Nat.le_refl _) _⟩
    · clear hR hx hh
      go_enter Try.func12, Try.ntmps12
      go_wp2_with (fail)
      refine (HR.out _).mono ?_
      rintro e w1 ⟨rfl, T1⟩
      obtain ⟨b0, b1⟩ := two_rows T1
      have B0 := Lib.hid b0
      obtain ⟨c0, c1, c2, f0, f1, f2⟩ := row3 b0
      obtain ⟨c3, c4, c5, _, _, _⟩ := row3 b1
      have T1 := nxt (((Below.refl _ w).alloc (Nat.le_refl _) _).alloc (by simp) _) T1
      clear b0 b1
      go_wp2_with (fail)
      (try simp only [Exit.inBlock, Exit.then])
      refine bodyPost_ret (v := .tuple #[.agg #[.int .i64 3, .int .i64 0, .slice none 0 0], .int .i64 0]) (res_cell_tmp rfl _ _ w.heap.size 24 #[.int .i64 3, .int .i64 0, .slice none 0 0] (0, 0) _ _ rfl rfl (stored3 B0.out _ _ _) Try.underlying24 rfl (by kernel_rfl)) rfl ?_
      exact ⟨_, _, _, rfl, Bys.nil _, ((T1.setCell (Nat.le_refl _) _).setCell (Nat.le_refl _) _).setCell (Nat.le_refl _) _⟩
  · rw [hh] at q1 hK hL
    obtain rfl : 3 = K := hK
    obtain rfl : 1 = L := hL
    cases R
    · clear hR hx hh
      go_enter Try.func12, Try.ntmps12
      go_wp2_with (fail)
      refine (HR.out _).mono ?_
      rintro e w1 ⟨rfl, T1⟩
      obtain ⟨b0, b1⟩ := two_rows T1
      have B0 := Lib.hid b0
      obtain ⟨c0, c1, c2, f0, f1, f2⟩ := row3 b0
      obtain ⟨c3, c4, c5, _, _, _⟩ := row3 b1
      have T1 := nxt (((Below.refl _ w).alloc (Nat.le_refl _) _).alloc (by simp) _) T1
      clear b0 b1
      go_wp2_with (fail)
      (try simp only [Exit.inBlock, Exit.then])
      refine bodyPost_ret (v := .tuple #[.agg #[.int .i64 0, .int .i64 0, .slice none 0 0], .int .i64 130]) (res_cell_tmp rfl _ _ w.heap.size 24 #[.int .i64 0, .int .i64 0, .slice none 0 0] (0, 0) _ _ rfl rfl (stored3 B0.out _ _ _) Try.underlying24 rfl (by kernel_rfl)) rfl ?_
      exact ⟨_, _, _, rfl, Bys.nil _, ((T1.setCell (Nat.le_refl _) _).setCell (Nat.le_refl _) _).setCell (Nat.le_refl _) _⟩
    · clear hR hx hh
      go_enter Try.func12, Try.ntmps12
      go_wp2_with (fail)
      refine (HR.out _).mono ?_
      rintro e w1 ⟨rfl, T1⟩
      obtain ⟨b0, b1⟩ := two_rows T1
      have B0 := Lib.hid b0
      obtain ⟨c0, c1, c2, f0, f1, f2⟩ := row3 b0
      obtain ⟨c3, c4, c5, _, _, _⟩ := row3 b1
      have T1 := nxt (((Below.refl _ w).alloc (Nat.le_refl _) _).alloc (by simp) _) T1
      clear b0 b1
      go_wp2_with (fail)
      (try simp only [Exit.inBlock, Exit.then])
      refine bodyPost_ret (v := .tuple #[.agg #[.int .i64 3, .int .i64 1, .slice none 0 0], .int .i64 0]) (res_cell_tmp rfl _ _ w.heap.size 24 #[.int .i64 3, .int .i64 1, .slice none 0 0] (0, 0) _ _ rfl rfl (stored3 B0.out _ _ _) Try.underlying24 rfl (by kernel_rfl)) rfl ?_
      exact ⟨_, _, _, rfl, Bys.nil _, ((T1.setCell (Nat.le_refl _) _).setCell (Nat.le_refl _) _).setCell (Nat.le_refl _) _⟩
  · rw [hh] at q1 hK hL
    obtain rfl : 4 = K := hK
    obtain rfl : 0 = L := hL
    cases R
    · clear hR hx hh
      go_enter Try.func12, Try.ntmps12
      go_wp2_with (fail)
      refine (HR.out _).mono ?_
      rintro e w1 ⟨rfl, T1⟩
      obtain ⟨b0, b1⟩ := two_rows T1
      have B0 := Lib.hid b0
      obtain ⟨c0, c1, c2, f0, f1, f2⟩ := row3 b0
      obtain ⟨c3, c4, c5, _, _, _⟩ := row3 b1
      have T1 := nxt (((Below.refl _ w).alloc (Nat.le_refl _) _).alloc (by simp) _) T1
      clear b0 b1
      go_wp2_with (fail)
      (try simp only [Exit.inBlock, Exit.then])
      refine bodyPost_ret (v := .tuple #[.agg #[.int .i64 0, .int .i64 0, .slice none 0 0], .int .i64 130]) (res_cell_tmp rfl _ _ w.heap.size 24 #[.int .i64 0, .int .i64 0, .slice none 0 0] (0, 0) _ _ rfl rfl (stored3 B0.out _ _ _) Try.underlying24 rfl (by kernel_rfl)) rfl ?_
      exact ⟨_, _, _, rfl, Bys.nil _, ((T1.setCell (Nat.le_refl _) _).setCell (Nat.le_refl _) _).setCell (Nat.le_refl _) _⟩
    · clear hR hx hh
      go_enter Try.func12, Try.ntmps12
      go_wp2_with (fail)
      refine (HR.out _).mono ?_
      rintro e w1 ⟨rfl, T1⟩
      obtain ⟨b0, b1⟩ := two_rows T1
      have B0 := Lib.hid b0
      obtain ⟨c0, c1, c2, f0, f1, f2⟩ := row3 b0
      obtain ⟨c3, c4, c5, _, _, _⟩ := row3 b1
      have T1 := nxt (((Below.refl _ w).alloc (Nat.le_refl _) _).alloc (by simp) _) T1
      clear b0 b1
      go_wp2_with (fail)
      (try simp only [Exit.inBlock, Exit.then])
      refine bodyPost_ret (v := .tuple #[.agg #[.int .i64 4, .int .i64 0, .slice none 0 0], .int .i64 0]) (res_cell_tmp rfl _ _ w.heap.size 24 #[.int .i64 4, .int .i64 0, .slice none 0 0] (0, 0) _ _ rfl rfl (stored3 B0.out _ _ _) Try.underlying24 rfl (by kernel_rfl)) rfl ?_
      exact ⟨_, _, _, rfl, Bys.nil _, ((T1.setCell (Nat.le_refl _) _).setCell (Nat.le_refl _) _).setCell (Nat.le_refl _) _⟩
  · rw [hh] at q1 hK hL
    obtain rfl : 4 = K := hK
    obtain rfl : 1 = L := hL
    cases R
    · clear hR hx hh
      go_enter Try.func12, Try.ntmps12
      go_wp2_with (fail)
      refine (HR.out _).mono ?_
      rintro e w1 ⟨rfl, T1⟩
      obtain ⟨b0, b1⟩ := two_rows T1
      have B0 := Lib.hid b0
      obtain ⟨c0, c1, c2, f0, f1, f2⟩ := row3 b0
      obtain ⟨c3, c4, c5, _, _, _⟩ := row3 b1
      have T1 := nxt (((Below.refl _ w).alloc (Nat.le_refl _) _).alloc (by simp) _) T1
      clear b0 b1
      go_wp2_with (fail)
      (try simp only [Exit.inBlock, Exit.then])
      refine bodyPost_ret (v := .tuple #[.agg #[.int .i64 0, .int .i64 0, .slice none 0 0], .int .i64 130]) (res_cell_tmp rfl _ _ w.heap.size 24 #[.int .i64 0, .int .i64 0, .slice none 0 0] (0, 0) _ _ rfl rfl (stored3 B0.out _ _ _) Try.underlying24 rfl (by kernel_rfl)) rfl ?_
      exact ⟨_, _, _, rfl, Bys.nil _, ((T1.setCell (Nat.le_refl _) _).setCell (Nat.le_refl _) _).setCell (Nat.le_refl _) _⟩
    · clear hR hx hh
      go_enter Try.func12, Try.ntmps12
      go_wp2_with (fail)
      refine (HR.out _).mono ?_
      rintro e w1 ⟨rfl, T1⟩
      obtain ⟨b0, b1⟩ := two_rows T1
      have B0 := Lib.hid b0
      obtain ⟨c0, c1, c2, f0, f1, f2⟩ := row3 b0
      obtain ⟨c3, c4, c5, _, _, _⟩ := row3 b1
      have T1 := nxt (((Below.refl _ w).alloc (Nat.le_refl _) _).alloc (by simp) _) T1
      clear b0 b1
      go_wp2_with (fail)
      (try simp only [Exit.inBlock, Exit.then])
      refine bodyPost_ret (v := .tuple #[.agg #[.int .i64 4, .int .i64 1, .slice none 0 0], .int .i64 0]) (res_cell_tmp rfl _ _ w.heap.size 24 #[.int .i64 4, .int .i64 1, .slice none 0 0] (0, 0) _ _ rfl rfl (stored3 B0.out _ _ _) Try.underlying24 rfl (by kernel_rfl)) rfl ?_
      exact ⟨_, _, _, rfl, Bys.nil _, ((T1.setCell (Nat.le_refl _) _).setCell (Nat.le_refl _) _).setCell (Nat.le_refl _) _⟩
  · obtain rfl : (x.toNat : Int) = K := by rw [← hK]; unfold prKind; rw [if_neg (by omega), if_neg (by omega)]
    obtain rfl : 0 = L := by rw [← hL]; unfold prLabel; rw [if_neg (by omega), if_neg (by omega)]
    have hb : 0 ≤ (x.toNat : Int) ∧ (x.toNat : Int) < 3 := by omega
    clear hK hL hx hh
    generalize (x.toNat : Int) = hx0 at *
    have hw : wrap64 hx0 = hx0 := by unfold wrap64; omega
    have d4 : (hx0 == 4) = false := by simp; omega
    have d5 : (hx0 == 5) = false := by simp; omega
    have d6 : (hx0 == 6) = false := by simp; omega
    have d7 : (hx0 == 7) = false := by simp; omega
    have d2 : decide (2 < hx0) = false := by simp; omega
    cases R
    · clear hR
      go_enter Try.func12, Try.ntmps12
      go_wp2_with (fail)
      refine (HR.out _).mono ?_
      rintro e w1 ⟨rfl, T1⟩
      obtain ⟨b0, b1⟩ := two_rows T1
      have B0 := Lib.hid b0
      obtain ⟨c0, c1, c2, f0, f1, f2⟩ := row3 b0
      obtain ⟨c3, c4, c5, _, _, _⟩ := row3 b1
      have T1 := nxt (((Below.refl _ w).alloc (Nat.le_refl _) _).alloc (by simp) _) T1
      clear b0 b1
      go_wp2_with (fail)
      (try simp only [Exit.inBlock, Exit.then])
      refine bodyPost_ret (v := .tuple #[.agg #[.int .i64 0, .int .i64 0, .slice none 0 0], .int .i64 130]) (res_cell_tmp rfl _ _ w.heap.size 24 #[.int .i64 0, .int .i64 0, .slice none 0 0] (0, 0) _ _ rfl rfl (stored3 B0.out _ _ _) Try.underlying24 rfl (by kernel_rfl)) rfl ?_
      exact ⟨_, _, _, rfl, Bys.nil _, ((T1.setCell (Nat.le_refl _) _).setCell (Nat.le_refl _) _).setCell (Nat.le_refl _) _⟩
    · clear hR
      go_enter Try.func12, Try.ntmps12
      go_wp2_with (fail)
      refine (HR.out _).mono ?_
      rintro e w1 ⟨rfl, T1⟩
      obtain ⟨b0, b1⟩ := two_rows T1
      have B0 := Lib.hid b0
      obtain ⟨c0, c1, c2, f0, f1, f2⟩ := row3 b0
      obtain ⟨c3, c4, c5, _, _, _⟩ := row3 b1
      have T1 := nxt (((Below.refl _ w).alloc (Nat.le_refl _) _).alloc (by simp) _) T1
      clear b0 b1
      go_wp2_with (fail)
      (try simp only [Exit.inBlock, Exit.then])
      refine bodyPost_ret (v := .tuple #[.agg #[.int .i64 hx0, .int .i64 0, .slice none 0 0], .int .i64 0]) (res_cell_tmp rfl _ _ w.heap.size 24 #[.int .i64 hx0, .int .i64 0, .slice none 0 0] (0, 0) _ _ rfl rfl (stored3 B0.out _ _ _) Try.underlying24 rfl (by kernel_rfl)) rfl ?_
      exact ⟨_, _, _, rfl, Bys.nil _, ((T1.setCell (Nat.le_refl _) _).setCell (Nat.le_refl _) _).setCell (Nat.le_refl _) _⟩
end Go.Proofs.Ytoaccikhklfeiaa
