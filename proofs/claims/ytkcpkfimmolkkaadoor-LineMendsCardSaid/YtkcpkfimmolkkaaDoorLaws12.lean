/- The walks of layer 12's statements, over the contracts of phase and line: Sends. -/
import Derived.Test.YtkcpkfimmolkkaaDoorLineC
namespace Go.Proofs.YtkcpkfimmolkkaaDoor
open Go.RowKit
set_option maxRecDepth 20000

theorem uni_mid {p : Pt} (h : Uni p) : Mid p := by unfold Uni at h; unfold Mid; omega
theorem send_uni (b : List UInt8) : ∀ p ∈ (sendB b).1, Uni p := by
  unfold sendB
  split
  · intro p hp; cases hp
  · exact uni_points _
theorem OwnP.ps {w : World} {B : Nat} {v : Value} {l : List Pt} (h : OwnP w B v l) : ∃ A c, v = .slice A l.length c ∧ Ps w A l.length c l := h.shape
set_option maxHeartbeats 8000000 in
theorem walk_LineSends {Tab : World → Prop} (D : PhC) (C : LiC Tab) (A : Option Addr) (n c : Nat) (b : List UInt8) (k : Int) (w : World) (hT : Tab w) (hB : Bys w A n c b) (hn : n ≤ 140737488351232) (hk : -9223372036854775808 ≤ k ∧ k ≤ 9223372036854775807) :
    Calls Tryd.prog 3 #[.slice A n c, .int .i64 k] w fun e w' => e = .returned (.bool true) ∧ Below w.heap.size w w' := by
  have HLV := Lib.hid (fun W (T : Below w.heap.size w W) => live12_any C W (C.keep _ _ hT T))
  by_cases h1 : 100 < n ∧ n ≤ 512
  · have d1 : decide ((100 : Int) < (n : Int)) = true := by simp; omega
    have d2 : decide ((n : Int) ≤ 512) = true := by simp; omega
    go_enter Tryd.func3, Tryd.ntmps3
    go_wp2_with (fail)
    refine (HLV.out _ (Below.refl _ _)).mono ?_
    rintro e w9 ⟨rfl, T9⟩
    go_wp2
    go_ret
    exact ⟨rfl, T9⟩
  · have HS := Lib.hid (C.send A n c b w hB hn hT)
    have HR := Lib.hid (fun W (T : Below w.heap.size w W) => rsend_any A n c b W (hB.below T) hn)
    have HTD := Lib.hid (fun A1 n1 c1 A2 n2 c2 W (h : Cs W A1 n1 c1 (sendB b).1) (h2 : Ps W A2 n2 c2 (sendB b).1) => told_true D A1 n1 c1 A2 n2 c2 (sendB b).1 W h h2 (fun p hp => uni_mid (send_uni b p hp)))
    have HL1 := Lib.hid (fun W => C.long k W hk)
    have HL2 := Lib.hid (fun W => rlong_any k W hk)
    have HL3 := Lib.hid (fun W => C.long (n : Int) W (by unfold In12; omega))
    have HNM := Lib.hid num12_any
    have hbl := hB.len
    have hee : (longI k == longI k) = true := by simp
    generalize longI k = lk at *
    by_cases h2 : 512 < n
    · have d1 : decide ((100 : Int) < (n : Int)) = true := by simp; omega
      have d2 : decide ((n : Int) ≤ 512) = false := by simp; omega
      have hs : sendB b = ([], 2) := by unfold sendB; rw [if_pos (by omega)]
      rw [hs] at HS HR HTD
      clear hs hbl
      go_enter Tryd.func3, Tryd.ntmps3
      go_wp2_with (fail)
      refine HS.out.mono ?_
      rintro e w1 ⟨v1, rfl, hown1, T1⟩
      obtain ⟨A1, c1, hv, hcs1⟩ := hown1.shape
      obtain rfl : v1 = .slice A1 0 c1 := hv
      have HC1 := Lib.hid hcs1
      clear hown1 hcs1
      go_wp2_with (fail)
      refine (HR.out _ T1).mono ?_
      rintro e w2 ⟨v2, rfl, hown2, T2⟩
      obtain ⟨A2, c2, hv, hps2⟩ := hown2.shape
      obtain rfl : v2 = .slice A2 0 c2 := hv
      have HP2 := Lib.hid hps2
      have HC2 := Lib.hid (HC1.out.below T2)
      have T2 := nxt T1 T2
      clear hown2 hps2
      go_wp2_with (fail)
      refine (HNM.out _ _).mono ?_
      rintro e w3 ⟨rfl, rfl⟩
      go_wp2_with (fail)
      refine (HTD.out A1 0 c1 A2 0 c2 _ HC2.out HP2.out).mono ?_
      rintro e w4 ⟨rfl, T4⟩
      have T4 := nxt T2 T4
      go_wp2_with (fail)
      refine (HL1.out _).mono ?_
      rintro e w5 ⟨rfl, T5⟩
      have T5 := nxt T4 T5
      go_wp2_with (fail)
      refine (HL2.out _).mono ?_
      rintro e w6 ⟨rfl, rfl⟩
      go_wp2_with (fail)
      refine (HNM.out _ _).mono ?_
      rintro e w7 ⟨rfl, rfl⟩
      go_wp2_with (fail)
      refine (HLV.out _ T5).mono ?_
      rintro e w9 ⟨rfl, T9⟩
      have T9 := nxt T5 T9
      go_wp2
      go_ret
      exact ⟨rfl, T9⟩
    · have d1 : decide ((100 : Int) < (n : Int)) = false := by simp; omega
      have hs : sendB b = (pointsB (lineB b), 0) := by unfold sendB; rw [if_neg (by omega)]
      have hpl := line_points b (by omega)
      rw [hbl] at hpl
      have h3 : longI (n : Int) = 33 + 8 * (n : Int) := by unfold longI; rw [if_neg (by omega)]
      rw [h3] at HL3
      rw [hs] at HS HR HTD
      generalize pointsB (lineB b) = L at *
      have HPL := Lib.hid hpl
      have hln : L.length ≤ 4129 := by omega
      clear hs hbl h3 hpl
      go_enter Tryd.func3, Tryd.ntmps3
      go_wp2_with (fail)
      refine HS.out.mono ?_
      rintro e w1 ⟨v1, rfl, hown1, T1⟩
      obtain ⟨A1, c1, hv, hcs1⟩ := hown1.shape
      obtain rfl : v1 = .slice A1 L.length c1 := hv
      have HC1 := Lib.hid hcs1
      clear hown1 hcs1
      go_wp2_with (fail)
      refine (HR.out _ T1).mono ?_
      rintro e w2 ⟨v2, rfl, hown2, T2⟩
      obtain ⟨A2, c2, hv, hps2⟩ := hown2.shape
      obtain rfl : v2 = .slice A2 L.length c2 := hv
      have HP2 := Lib.hid hps2
      have HC2 := Lib.hid (HC1.out.below T2)
      have T2 := nxt T1 T2
      clear hown2 hps2
      go_wp2_with (fail)
      refine (HNM.out _ _).mono ?_
      rintro e w3 ⟨rfl, rfl⟩
      go_wp2_with (fail)
      refine (HTD.out A1 _ c1 A2 _ c2 _ HC2.out HP2.out).mono ?_
      rintro e w4 ⟨rfl, T4⟩
      have T4 := nxt T2 T4
      go_wp2_with (fail)
      refine (HL1.out _).mono ?_
      rintro e w5 ⟨rfl, T5⟩
      have T5 := nxt T4 T5
      go_wp2_with (fail)
      refine (HL2.out _).mono ?_
      rintro e w6 ⟨rfl, rfl⟩
      go_wp2_with (fail)
      refine (HNM.out _ _).mono ?_
      rintro e w7 ⟨rfl, rfl⟩
      go_wp2_with (fail)
      refine (HL3.out _).mono ?_
      rintro e w8 ⟨rfl, T8⟩
      have T8 := nxt T5 T8
      have hll : ((L.length : Int) == 33 + 8 * (n : Int)) = true := by have := HPL.out; simp; omega
      go_wp2_with (fail)
      refine (HLV.out _ T8).mono ?_
      rintro e w9 ⟨rfl, T9⟩
      have T9 := nxt T8 T9
      go_wp2
      go_ret
      exact ⟨rfl, T9⟩
end Go.Proofs.YtkcpkfimmolkkaaDoor
