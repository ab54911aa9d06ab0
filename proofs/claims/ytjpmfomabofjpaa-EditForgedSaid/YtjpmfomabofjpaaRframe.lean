/- What kedgeref04.Wrap, Body, Open and Most answer. -/
import Derived.Test.YtjpmfomabofjpaaCrcR
import Derived.Test.YtjpmfomabofjpaaRstuffP
import Derived.Test.YtjpmfomabofjpaaRstuffG
import Derived.Test.YtjpmfomabofjpaaFrameO
namespace Go.Proofs.Ytjpmfomabofjpaa
open Go.RowKit

theorem ownflag (W : World) (B : Nat) (hB : B ≤ W.heap.size) : (W.alloc (.cells #[.int .u8 126] 5)).ownsRow B 5 1 (.slice (some ⟨W.heap.size, 0, none⟩) 1 1) 1 (bvs [0x7e]) := by
  exact World.ownsRow_lit (base := B) (e := 5) (size := 1) W (bvs [0x7e]).toArray 1 hB (by unfold maxLen; omega) (by simp [bvs])

set_option maxRecDepth 20000 in
set_option maxHeartbeats 2000000 in
theorem rwrap_any (A : Option Addr) (n c : Nat) (l : List UInt8) (w : World) (h : Bys w A n c l) (hn : n ≤ 96) :
    Calls Try.prog 18 #[.slice A n c] w (GivesN w 0 (frameW l)) := by
  have hd : decide ((96 : Int) < (n : Int)) = false := by simp; omega
  have HL : Hid ((crcPut l).length = n + 4) := by show _ = _; rw [crcPut_length, h.len]
  have HS := Lib.hid (stuffB_len (crcPut l))
  have HF : Hid (bvs [0x7e] ++ bvs (stuffB (crcPut l)) ++ bvs [0x7e] = bvs (frameW l)) := by show _ = _; rw [← bvs_append, ← bvs_append]; rfl
  have P := fun W (b : Bys W A n c l) => rcput_any A n c l W b (by omega)
  have P := Lib.hid P
  generalize frameW l = f at *
  generalize crcPut l = p at *
  have S := fun A1 n1 c1 W (b : Bys W A1 n1 c1 p) => rstput_any A1 n1 c1 p W b (by have := HS.out; have := HL.out; omega)
  have S := Lib.hid S
  go_enter Try.func18, Try.ntmps18
  go_wp2_with (fail)
  refine (P.out _ (h.alloc _)).mono ?_
  rintro e w1 ⟨A1, n1, c1, rfl, B1, G⟩
  have T0 : Below w.heap.size w (w.alloc (.cells #[.int .u8 126] 5)) := (Below.refl _ w).alloc (Nat.le_refl _) _
  have O := own_below (ownflag w w.heap.size (Nat.le_refl _)) G
  have T := nxt T0 G
  clear G T0
  go_wp2_with (fail)
  refine (S.out _ _ _ _ B1).mono ?_
  rintro e w2 ⟨A2, n2, c2, rfl, B2, G⟩
  have O := own_below O G
  have T := nxt T G
  have h3 : n2 ≤ 200 := by have := B2.len; have := HS.out; have := HL.out; omega
  have hts := T.size
  clear G B1
  have FL : Hid (∀ W : World, Bys (W.alloc (.cells #[.int .u8 126] 5)) (some ⟨W.heap.size, 0, none⟩) 1 1 [0x7e]) := fun W => litflag W
  go_wp2_with (first
    | ((with_reducible refine app_bys _ rfl (.tmp 9) (.tmp 12) rfl w.heap.size (.slice (some ⟨w.heap.size, 0, none⟩) 1 1) 1 (bvs [0x7e]) rfl O A2 n2 c2 (stuffB p) rfl B2 ?_ ?_ ?_); (omega); (omega); intro v3 w3 hown3 hgrow3 hwhere3; have T := T.grown hgrow3 hts (by intro g hg; simp [Value.ownBlock] at hg; omega); have hts := T.size; clear B2 O)
    | ((with_reducible refine app_bys _ rfl (.tmp 14) (.tmp 15) rfl w.heap.size v3 (1 + n2) (bvs [0x7e] ++ bvs (stuffB p)) rfl ?_ (some ⟨w3.heap.size, 0, none⟩) 1 1 [0x7e] rfl ?_ ?_ ?_ ?_); (exact hown3.alloc _); (exact FL.out w3); (omega); (simp; omega); intro v4 w4 hown4 hgrow4 hwhere4))
  rw [HF.out] at hown4
  have T2 := (T.alloc hts (.cells #[.int .u8 126] 5)).grown hgrow4 (by simp; omega) (fun g hg => (hown3.lt g hg).1)
  go_ret2
  obtain ⟨A4, c4, rfl⟩ := own_shape hown4
  exact ⟨_, _, _, rfl, Bys.of_own hown4, T2⟩

set_option maxHeartbeats 1000000 in
theorem rwrap_long (A : Option Addr) (n c : Nat) (w : World) (hn : 96 < n) :
    Calls Try.prog 18 #[.slice A n c] w fun e w' => e = .returned (.tuple #[.slice none 0 0, .int .i64 2]) ∧ w = w' := by
  have hd : decide ((96 : Int) < (n : Int)) = true := by simp; omega
  go_enter Try.func18, Try.ntmps18
  go_wp2_with (fail)
  go_ret2
  exact ⟨rfl, rfl⟩

set_option maxRecDepth 20000 in
set_option maxHeartbeats 2000000 in
theorem rbody_fr (A : Option Addr) (n c : Nat) (s : List UInt8) (w : World) (h : Bys w A n c s) (hn : n ≤ 140737488351232) :
    Calls Try.prog 39 #[.slice A n c] w (GivesNf w (frameE (frameB s)) ((frameB s).getD [])) := by
  have hlen := h.len
  have G1 := rstget_any A n c s w h (by omega)
  rcases hu : unst s with _ | x
  · have HB : Hid (frameB s = none) := by show _ = _; unfold frameB; rw [hu]; rfl
    rw [hu, show unstE (none : Option (List UInt8)) = 30 from rfl] at G1
    have G1 := Lib.hid G1
    rw [HB.out]
    clear hu hlen h
    go_enter Try.func39, Try.ntmps39
    go_wp2_with (fail)
    refine G1.out.mono ?_
    rintro e w2 ⟨A2, n2, c2, rfl, -, T⟩
    go_wp2_with (fail)
    go_ret2
    exact ⟨_, _, _, rfl, Bys.nil _, Av.none _ _, T⟩
  · have hx : x.length ≤ n := by have := (stuffB_len x).1; subst hlen; rw [← stuffB_unst s x hu]; exact this
    rw [hu, show unstE (some x) = 0 from rfl] at G1
    have G1 := Lib.hid G1
    have hB : frameB s = (crcChk x).bind short := by unfold frameB; rw [hu]; rfl
    rw [hB]
    have C := fun A1 n1 c1 W (b : Bys W A1 n1 c1 x) => rcheck_fr A1 n1 c1 x W b (by have := b.len; omega)
    rcases hc : crcChk x with _ | y
    · rw [hc] at C
      have C := Lib.hid C
      clear hu hlen hB hc hx h
      go_enter Try.func39, Try.ntmps39
      go_wp2_with (fail)
      refine G1.out.mono ?_
      rintro e w2 ⟨A2, n2, c2, rfl, B2, T⟩
      have HZ := Lib.hid T.size
      go_wp2_with (fail)
      refine (C.out A2 n2 c2 _ B2).mono ?_
      rintro e w3 ⟨A3, n3, c3, rfl, -, -, G⟩
      have T := nxt T G
      go_wp2_with (fail)
      go_ret2
      exact ⟨_, _, _, rfl, Bys.nil _, Av.none _ _, T⟩
    · rw [hc] at C
      have C := Lib.hid C
      clear hu hlen hB hc hx h
      by_cases hy : y.length ≤ 96
      · have HB : Hid ((some y).bind short = some y) := by show _ = _; rw [Option.bind_some]; unfold short; rw [if_pos hy]
        rw [HB.out]
        go_enter Try.func39, Try.ntmps39
        go_wp2_with (fail)
        refine G1.out.mono ?_
        rintro e w2 ⟨A2, n2, c2, rfl, B2, T⟩
        have HZ := Lib.hid T.size
        go_wp2_with (fail)
        refine (C.out A2 n2 c2 _ B2).mono ?_
        rintro e w3 ⟨A3, n3, c3, rfl, B3, F3, G⟩
        have T := nxt T G
        have hd : decide ((96 : Int) < (n3 : Int)) = false := by have := B3.len; simp at this ⊢; omega
        go_wp2_with (fail)
        go_ret2
        exact ⟨_, _, _, rfl, B3, F3.mono HZ.out, T⟩
      · have HB : Hid ((some y).bind short = none) := by show _ = _; rw [Option.bind_some]; unfold short; rw [if_neg hy]
        rw [HB.out]
        go_enter Try.func39, Try.ntmps39
        go_wp2_with (fail)
        refine G1.out.mono ?_
        rintro e w2 ⟨A2, n2, c2, rfl, B2, T⟩
        have HZ := Lib.hid T.size
        go_wp2_with (fail)
        refine (C.out A2 n2 c2 _ B2).mono ?_
        rintro e w3 ⟨A3, n3, c3, rfl, B3, F3, G⟩
        have T := nxt T G
        have hd : decide ((96 : Int) < (n3 : Int)) = true := by have := B3.len; simp at this ⊢; omega
        go_wp2_with (fail)
        go_ret2
        exact ⟨_, _, _, rfl, Bys.nil _, Av.none _ _, T⟩
theorem rbody_any (A : Option Addr) (n c : Nat) (s : List UInt8) (w : World) (h : Bys w A n c s) (hn : n ≤ 140737488351232) :
    Calls Try.prog 39 #[.slice A n c] w (GivesN w (frameE (frameB s)) ((frameB s).getD [])) :=
  (rbody_fr A n c s w h hn).mono fun _ _ ⟨A1, n1, c1, h1, h2, _, h3⟩ => ⟨A1, n1, c1, h1, h2, h3⟩

end Go.Proofs.Ytjpmfomabofjpaa
