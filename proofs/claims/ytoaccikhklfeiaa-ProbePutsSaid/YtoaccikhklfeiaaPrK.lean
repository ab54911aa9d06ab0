/- Contracts of the landed probe (at 22a70fa): Put, Get, Same. -/
import Derived.Test.YtoaccikhklfeiaaPrK1
import Derived.Test.YtoaccikhklfeiaaPrC
import Derived.Test.YtoaccikhklfeiaaOsame
namespace Go.Proofs.Ytoaccikhklfeiaa
open Go.RowKit
set_option maxRecDepth 20000

set_option maxHeartbeats 4000000 in
theorem prput_any (k l : Int) (A : Option Addr) (n c : Nat) (d : List UInt8) (w : World) (hB : Bys w A n c d) :
    Calls Try.prog 6 #[.agg #[.int .i64 k, .int .i64 l, .slice A n c]] w (GivesI w (prErr k l n) (prPut k l d)) := by
  have hl := hB.len
  have HR := Lib.hid (fun W => prheader_any k l A n c W)
  cases hr : prRight k l n with
  | false =>
    rw [prErr_no hr, prPut_no (by rw [hl]; exact hr)]
    rw [hr] at HR
    clear hB hr
    go_enter Try.func6, Try.ntmps6
    go_wp2_with (fail)
    refine (HR.out _).mono ?_
    rintro e w1 ⟨rfl, T1⟩
    have T1 := nxt ((Below.refl _ w).alloc (Nat.le_refl _) _) T1
    go_wp2
    go_ret2
    exact ⟨_, _, _, rfl, Bys.nil _, T1⟩
  | true =>
    have hn := prRight_le hr
    have hh := prHead_byte hr
    have hhl := prHead_lt hr
    have e : prPut k l d = UInt8.ofNat (prHead k l).toNat :: d := by unfold prPut; rw [hl, if_pos hr]
    rw [prErr_yes hr, e]
    rw [hr] at HR
    rw [if_pos rfl] at HR
    clear e hr
    have hcast : ((UInt8.ofNat (prHead k l).toNat).toNat : Int) = prHead k l := by rw [hh]; omega
    clear hh hhl
    generalize UInt8.ofNat (prHead k l).toNat = x at *
    rw [← hcast] at HR
    clear hcast
    have HC := Lib.hid (fun W (k : Below w.heap.size w W) => hB.below k)
    have hcap := hB.cap
    have hle := hB.le
    clear hB
    go_enter Try.func6, Try.ntmps6
    go_wp2_with (fail)
    refine (HR.out _).mono ?_
    rintro e w1 ⟨rfl, T1⟩
    have T0 := (Below.refl _ w).alloc (Nat.le_refl _) (.cells #[.int .i64 k, .int .i64 l, .slice A n c] 24)
    have q1 : w1.heap[w.heap.size]? = some (.cells #[.int .i64 k, .int .i64 l, .slice A n c] 24 (0, 0)) := (T1.block _ (by simp)).trans (heap_alloc_new w _)
    have hz1 : w.heap.size < w1.heap.size := by have := T1.size; simp at this; omega
    have T1 := nxt T0 T1
    have p1 : (w1.alloc (.cells #[.int .u8 (x.toNat : Int)] 5)).cell? ⟨w.heap.size, 2, none⟩ = some (.slice A n c) := cell_of_row _ _ 2 _ _ _ (hp_old q1 _)
    clear q1
    go_wp2_with ((with_reducible refine app_bys _ rfl (.tmp 14) (.tmp 16) rfl w1.heap.size (.slice (some ⟨w1.heap.size, 0, none⟩) 1 1) 1 (bvs [x]) rfl ?_ A n c d rfl ?_ ?_ ?_ ?_); (exact own_lit1 w1 x); (exact HC.out _ (T1.alloc T1.size _)); (omega); (simp); intro v3 w3 hown3 hgrow3 hwhere3)
    obtain ⟨A3, c3, rfl⟩ := own_shape hown3
    rw [← bvs_append] at hown3
    have HO := Lib.hid (Bys.of_own hown3)
    have HT := Lib.hid ((T1.alloc T1.size (.cells #[.int .u8 (x.toNat : Int)] 5)).grown hgrow3 (by simp; have := T1.size; omega) (by intro k hk; simp [Value.ownBlock] at hk; omega))
    clear hown3 hgrow3
    go_wp2
    go_ret2
    exact ⟨_, _, _, rfl, HO.out, HT.out⟩
set_option maxHeartbeats 4000000 in
theorem prsame_any (k l : Int) (A : Option Addr) (n c : Nat) (d : List UInt8) (k' l' : Int) (A' : Option Addr) (n' c' : Nat) (d' : List UInt8) (w : World) (hB : Bys w A n c d) (hB' : Bys w A' n' c' d') :
    Calls Try.prog 14 #[.agg #[.int .i64 k, .int .i64 l, .slice A n c], .agg #[.int .i64 k', .int .i64 l', .slice A' n' c']] w fun e w' => e = .returned (.bool (prSame k l d k' l' d')) ∧ Below w.heap.size w w' := by
  have T0 : Below w.heap.size w ((w.alloc (.cells #[.int .i64 k, .int .i64 l, .slice A n c] 24)).alloc (.cells #[.int .i64 k', .int .i64 l', .slice A' n' c'] 24)) := ((Below.refl _ w).alloc (Nat.le_refl _) _).alloc (by simp) _
  by_cases h1 : k = k'
  · subst h1
    have e1 : (k == k) = true := by simp
    by_cases h2 : l = l'
    · subst h2
      have e2 : (l == l) = true := by simp
      have HS := Lib.hid (fun W (h : Below w.heap.size w W) => equal_any A A' n c n' c' d d' W (hB.below h) (hB'.below h))
      have hr : prSame k l d k l d' = sameB d d' := by unfold prSame sameB; simp
      rw [hr]
      have HT := Lib.hid T0
      clear hB hB' hr T0
      go_enter Try.func14, Try.ntmps14
      go_wp2_with (fail)
      refine (HS.out _ HT.out).mono ?_
      rintro e w1 ⟨rfl, rfl⟩
      go_wp2
      go_ret
      exact ⟨rfl, HT.out⟩
    · have e2 : (l == l') = false := by simpa using h2
      have hr : prSame k l d k l' d' = false := by unfold prSame; simp [h2]
      rw [hr]
      clear hB hB' hr
      go_enter Try.func14, Try.ntmps14
      go_wp2
      go_ret
      exact ⟨rfl, T0⟩
  · have e1 : (k == k') = false := by simpa using h1
    have hr : prSame k l d k' l' d' = false := by unfold prSame; simp [h1]
    rw [hr]
    clear hB hB' hr
    go_enter Try.func14, Try.ntmps14
    go_wp2
    go_ret
    exact ⟨rfl, T0⟩
end Go.Proofs.Ytoaccikhklfeiaa
