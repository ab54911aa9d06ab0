/- The walk of FrameTurned. -/
import Derived.Test.YtopdbkiadgiicaaLive04
namespace Go.Proofs.Ytopdbkiadgiicaa
open Go.RowKit

set_option maxRecDepth 20000 in
set_option maxHeartbeats 4000000 in
theorem walk_FrameTurned (A : Option Addr) (n c : Nat) (l : List UInt8) (at_ : Int) (v : Nat) (w : World) (hB : Bys w A n c l) (hv : v < 256) :
    Calls Try.prog 6 #[.slice A n c, .int .i64 at_, .int .u8 v] w fun e w' => e = .returned (.bool true) ∧ Below w.heap.size w w' := by
  by_cases hn : n ≤ 96
  · have HW := fun a W t b => wrap_any a A n c l W t b hn
    have HT := frameO_turned l
    have hlen : (frameW l).length ≤ 202 := by have := (frameW_len l).2; have := hB.len; omega
    generalize frameW l = f at *
    unfold GivesF at HW
    obtain ⟨m, hm⟩ : ∃ m, f.length = m := ⟨_, rfl⟩
    rw [hm] at HW hlen
    have HW := Lib.hid HW
    go_enter Try.func6, Try.ntmps6
    go_wp2_with (fail)
    refine (new_any w).mono ?_
    rintro e w1 ⟨a, rfl, Ta, T⟩
    have hB := hB.below T
    go_wp2_with (fail)
    refine (HW.out a _ Ta hB).mono ?_
    rintro e w2 ⟨g2, c2, rfl, O2, G⟩
    go_wp2_with (fail)
    refine (num_any _ _).mono ?_
    rintro e w' ⟨rfl, rfl⟩
    by_cases h1 : at_ < 0
    · have T := nxt T G
      have d1 : decide (at_ < 0) = true := by simpa using h1
      clear HT hm
      go_wp2_with (fail)
      refine (live04 _).mono ?_
      rintro e w7 ⟨rfl, G⟩
      have T := nxt T G
      clear G
      go_wp2_with (fail)
      go_ret
      exact ⟨rfl, T⟩
    · obtain ⟨k, rfl⟩ := Int.eq_ofNat_of_zero_le (show 0 ≤ at_ from by omega)
      have d1 : decide ((k : Int) < 0) = false := by simp
      by_cases h2 : m ≤ k
      · have T := nxt T G
        have d2 : decide ((m : Int) ≤ (k : Int)) = true := by simp; omega
        clear HT hm
        go_wp2_with (fail)
        refine (live04 _).mono ?_
        rintro e w7 ⟨rfl, G⟩
        have T := nxt T G
        clear G
        go_wp2_with (fail)
        go_ret
        exact ⟨rfl, T⟩
      · have d2 : decide ((m : Int) ≤ (k : Int)) = false := by simp; omega
        have hkf : k < f.length := by omega
        have HT2 := HT k (f[k] ^^^ UInt8.ofNat v) hkf
        clear HT
        have cell := O2.cell k hkf
        have FREE := Lib.hid (O2.free k hkf)
        have SET := Lib.hid (O2.set k (f[k] ^^^ UInt8.ofNat v) (by omega))
        have hcap := O2.cap
        have hle := O2.le
        have hxo : bits BinOp.xor IntKind.u8 (f[k].toNat : Int) (v : Int) = ((f[k] ^^^ UInt8.ofNat v).toNat : Int) := by
          rw [u8_xor_nat _ v f[k].toNat_lt hv, UInt8.toNat_xor, UInt8.toNat_ofNat', Nat.mod_eq_of_lt hv]
        have hv0 : v ≠ 0 → f[k] ^^^ UInt8.ofNat v ≠ f[k] := by
          intro h0 e
          have e2 := congrArg UInt8.toNat e
          rw [UInt8.toNat_xor, UInt8.toNat_ofNat', Nat.mod_eq_of_lt hv] at e2
          have e3 := xor_left_inj f[k].toNat v 0 (by rw [e2, Nat.xor_zero])
          exact h0 e3
        have hset : (f.set k (f[k] ^^^ UInt8.ofNat v)).length = m := by simpa using hm
        have hg := O2.base
        clear O2 HW
        generalize f[k] ^^^ UInt8.ofNat v = d at *
        generalize f[k] = x at *
        generalize f.set k d = f2 at *
        have hxl := lt256 x
        have hdl := lt256 d
        clear hm hkf
        have hkm : k < m := by omega
        by_cases h3 : v = 0
        · have T := nxt T G
          subst h3
          clear hxo hv0 HT2
          go_wp2_with (fail)
          refine (live04 _).mono ?_
          rintro e w7 ⟨rfl, G⟩
          have T := nxt T G
          clear G
          go_wp2_with (fail)
          go_ret
          exact ⟨rfl, T⟩
        · have d3 : ((v : Int) == 0) = false := by simp; omega
          by_cases h4 : x = 0x7d
          · have T := nxt T G
            have d4 : ((x.toNat : Int) == 125) = true := by subst h4; rfl
            clear hxo hv0 HT2
            go_wp2_with (fail)
            refine (live04 _).mono ?_
            rintro e w7 ⟨rfl, G⟩
            have T := nxt T G
            clear G
            go_wp2_with (fail)
            go_ret
            exact ⟨rfl, T⟩
          · have d4 : ((x.toNat : Int) == 125) = false := u8_ne (b := 0x7d) h4
            by_cases h5 : d = 0x7d
            · have T := nxt T G
              have d5 : ((d.toNat : Int) == 125) = true := by subst h5; rfl
              clear hv0 HT2
              go_wp2_with (fail)
              refine (live04 _).mono ?_
              rintro e w7 ⟨rfl, G⟩
              have T := nxt T G
              clear G
              go_wp2_with (fail)
              go_ret
              exact ⟨rfl, T⟩
            · have d5 : ((d.toNat : Int) == 125) = false := u8_ne (b := 0x7d) h5
              have HN : frameO f2 = none := HT2 h4 h5 (hv0 h3)
              have HP := fun a A1 c1 W t b => open_any a A1 m c1 f2 W t b (by omega)
              rw [HN, show frameE none = 40 from rfl] at HP
              have HP := Lib.hid HP
              have free := FREE.out
              have T2 : Below w1.heap.size w1 (w2.setCell ⟨g2, k, none⟩ (.int .u8 (d.toNat : Int))) := G.setCell hg _
              clear HT2 hv0 h3 h4 h5 HN
              go_wp2_with (fail)
              refine (HP.out a _ _ _ (Ta.below T2) SET.out.bys).mono ?_
              rintro e w3 ⟨A3, n3, c3, rfl, -, G3⟩
              have T := nxt (nxt T T2) G3
              clear G3
              go_wp2_with (fail)
              refine (num_any _ _).mono ?_
              rintro e w' ⟨rfl, rfl⟩
              go_wp2_with (fail)
              refine (live04 _).mono ?_
              rintro e w7 ⟨rfl, G⟩
              have T := nxt T G
              clear G
              go_wp2_with (fail)
              go_ret
              exact ⟨rfl, T⟩
  · have HW := Lib.hid (fun a W t => wrap_long a A n c W t (by omega))
    go_enter Try.func6, Try.ntmps6
    go_wp2_with (fail)
    refine (new_any w).mono ?_
    rintro e w1 ⟨a, rfl, Ta, T⟩
    go_wp2_with (fail)
    refine (HW.out a _ Ta).mono ?_
    rintro e w2 ⟨rfl, G⟩
    have T := nxt T G
    clear G
    go_wp2_with (fail)
    refine (num_any _ _).mono ?_
    rintro e w' ⟨rfl, rfl⟩
    go_wp2_with (fail)
    refine (live04 _).mono ?_
    rintro e w7 ⟨rfl, G⟩
    have T := nxt T G
    clear G
    go_wp2_with (fail)
    go_ret
    exact ⟨rfl, T⟩
end Go.Proofs.Ytopdbkiadgiicaa
