/- What package frame's calls answer. -/
import Derived.Test.YtjpmfomabofjpaaCrcK2
import Derived.Test.YtjpmfomabofjpaaStuffP
import Derived.Test.YtjpmfomabofjpaaStuffG
import Derived.Test.YtjpmfomabofjpaaFrameM
import Derived.Test.YtjpmfomabofjpaaFresh
namespace Go.Proofs.Ytjpmfomabofjpaa
open Go.RowKit

/-- A call's end that makes a []byte in memory of its own, which may be written, and tells that all went well. -/
def GivesF (w : World) (l : List UInt8) (e : Ending) (w' : World) : Prop :=
  ∃ g c, e = .returned (.tuple #[.slice (some ⟨g, 0, none⟩) l.length c, .int .i64 0]) ∧ Own w' w.heap.size g l.length c l ∧ Below w.heap.size w w'

theorem crcPut_nil4 : (crcPut []).length = 4 := crcPut_length []
set_option maxHeartbeats 1000000 in
theorem fmade_yes (a : Addr) (w : World) (ht : Tab w a) : Calls Try.prog 47 #[.pointer (some a)] w fun e w' => e = .returned (.bool true) ∧ Below w.heap.size w w' := by
  have H := cput_any a none 0 0 [] w ht (Bys.nil w) (by decide)
  unfold GivesO at H
  rw [crcPut_nil4] at H
  have H := Lib.hid H
  go_enter Try.func47, Try.ntmps47
  go_wp2_with (fail)
  refine H.out.mono ?_
  rintro e w1 ⟨g, c, rfl, -, G⟩
  go_wp2
  go_ret
  exact ⟨rfl, G⟩
set_option maxHeartbeats 1000000 in
theorem fmade_no (v : Value) (w : World) (h : Calls Try.prog 50 #[v, .slice none 0 0] w (GivesB w [])) : Calls Try.prog 47 #[v] w fun e w' => e = .returned (.bool false) ∧ Below w.heap.size w w' := by
  have H := Lib.hid h
  clear h
  go_enter Try.func47, Try.ntmps47
  go_wp2_with (fail)
  refine H.out.mono ?_
  rintro e w1 ⟨A1, n1, c1, rfl, B1, G⟩
  obtain rfl : n1 = 0 := B1.len.symm
  go_wp2
  go_ret
  exact ⟨rfl, G⟩

theorem litflag (W : World) : Bys (W.alloc (.cells #[.int .u8 126] 5)) (some ⟨W.heap.size, 0, none⟩) 1 1 [0x7e] := Bys.lit W [0x7e] (by decide)

set_option maxHeartbeats 1000000 in
theorem body_nil (v : Value) (A : Option Addr) (n c : Nat) (w : World) (h : Calls Try.prog 50 #[v, .slice none 0 0] w (GivesB w [])) :
    Calls Try.prog 41 #[v, .slice A n c] w fun e w' => e = .returned (.tuple #[.slice none 0 0, .int .i64 5]) ∧ Below w.heap.size w w' := by
  have M := Lib.hid (fmade_no v w h)
  clear h
  go_enter Try.func41, Try.ntmps41
  go_wp2_with (fail)
  refine M.out.mono ?_
  rintro e w1 ⟨rfl, T⟩
  go_wp2_with (fail)
  go_ret2
  exact ⟨rfl, T⟩
set_option maxRecDepth 20000 in
set_option maxHeartbeats 2000000 in
theorem body_fr (a : Addr) (A : Option Addr) (n c : Nat) (s : List UInt8) (w : World) (ht : Tab w a) (h : Bys w A n c s) (hn : n ≤ 140737488351232) :
    Calls Try.prog 41 #[.pointer (some a), .slice A n c] w (GivesNf w (frameE (frameB s)) ((frameB s).getD [])) := by
  have M := Lib.hid (fmade_yes a w ht)
  have hlen := h.len
  have G1 := fun W (b : Bys W A n c s) => stget_any A n c s W b (by omega)
  rcases hu : unst s with _ | x
  · have HB : Hid (frameB s = none) := by show _ = _; unfold frameB; rw [hu]; rfl
    rw [hu, show unstE (none : Option (List UInt8)) = 30 from rfl] at G1
    have G1 := Lib.hid G1
    rw [HB.out]
    clear hu hlen
    go_enter Try.func41, Try.ntmps41
    go_wp2_with (fail)
    refine M.out.mono ?_
    rintro e w1 ⟨rfl, T⟩
    have h := h.below T
    go_wp2_with (fail)
    refine (G1.out _ h).mono ?_
    rintro e w2 ⟨A2, n2, c2, rfl, -, G⟩
    have T := nxt T G
    go_wp2_with (fail)
    go_ret2
    exact ⟨_, _, _, rfl, Bys.nil _, Av.none _ _, T⟩
  · have hx : x.length ≤ n := by have := stuffB_unst s x hu; have := (stuffB_len x).1; subst hlen; rw [← stuffB_unst s x hu]; exact this
    rw [hu, show unstE (some x) = 0 from rfl] at G1
    have G1 := Lib.hid G1
    have hB : frameB s = (crcChk x).bind short := by unfold frameB; rw [hu]; rfl
    rw [hB]
    have C := fun A1 n1 c1 W t (b : Bys W A1 n1 c1 x) => check_fr a A1 n1 c1 x W t b (by have := b.len; omega)
    rcases hc : crcChk x with _ | y
    · rw [hc] at C
      have C := Lib.hid C
      clear hu hlen hB hc hx
      go_enter Try.func41, Try.ntmps41
      go_wp2_with (fail)
      refine M.out.mono ?_
      rintro e w1 ⟨rfl, T⟩
      have h := h.below T
      go_wp2_with (fail)
      refine (G1.out _ h).mono ?_
      rintro e w2 ⟨A2, n2, c2, rfl, B2, G⟩
      have T := nxt T G
      go_wp2_with (fail)
      refine (C.out A2 n2 c2 _ (ht.below T) B2).mono ?_
      rintro e w3 ⟨A3, n3, c3, rfl, -, -, G⟩
      have T := nxt T G
      go_wp2_with (fail)
      go_ret2
      exact ⟨_, _, _, rfl, Bys.nil _, Av.none _ _, T⟩
    · rw [hc] at C
      have C := Lib.hid C
      clear hu hlen hB hc hx
      by_cases hy : y.length ≤ 96
      · have HB : Hid ((some y).bind short = some y) := by show _ = _; rw [Option.bind_some]; unfold short; rw [if_pos hy]
        rw [HB.out]
        go_enter Try.func41, Try.ntmps41
        go_wp2_with (fail)
        refine M.out.mono ?_
        rintro e w1 ⟨rfl, T⟩
        have h := h.below T
        go_wp2_with (fail)
        refine (G1.out _ h).mono ?_
        rintro e w2 ⟨A2, n2, c2, rfl, B2, G⟩
        have T := nxt T G
        have HZ := Lib.hid T.size
        go_wp2_with (fail)
        refine (C.out A2 n2 c2 _ (ht.below T) B2).mono ?_
        rintro e w3 ⟨A3, n3, c3, rfl, B3, F3, G⟩
        have T := nxt T G
        have hd : decide ((96 : Int) < (n3 : Int)) = false := by have := B3.len; simp at this ⊢; omega
        go_wp2_with (fail)
        go_ret2
        exact ⟨_, _, _, rfl, B3, F3.mono HZ.out, T⟩
      · have HB : Hid ((some y).bind short = none) := by show _ = _; rw [Option.bind_some]; unfold short; rw [if_neg hy]
        rw [HB.out]
        go_enter Try.func41, Try.ntmps41
        go_wp2_with (fail)
        refine M.out.mono ?_
        rintro e w1 ⟨rfl, T⟩
        have h := h.below T
        go_wp2_with (fail)
        refine (G1.out _ h).mono ?_
        rintro e w2 ⟨A2, n2, c2, rfl, B2, G⟩
        have T := nxt T G
        have HZ := Lib.hid T.size
        go_wp2_with (fail)
        refine (C.out A2 n2 c2 _ (ht.below T) B2).mono ?_
        rintro e w3 ⟨A3, n3, c3, rfl, B3, F3, G⟩
        have T := nxt T G
        have hd : decide ((96 : Int) < (n3 : Int)) = true := by have := B3.len; simp at this ⊢; omega
        go_wp2_with (fail)
        go_ret2
        exact ⟨_, _, _, rfl, Bys.nil _, Av.none _ _, T⟩
theorem body_any (a : Addr) (A : Option Addr) (n c : Nat) (s : List UInt8) (w : World) (ht : Tab w a) (h : Bys w A n c s) (hn : n ≤ 140737488351232) :
    Calls Try.prog 41 #[.pointer (some a), .slice A n c] w (GivesN w (frameE (frameB s)) ((frameB s).getD [])) :=
  (body_fr a A n c s w ht h hn).mono fun _ _ ⟨A1, n1, c1, h1, h2, _, h3⟩ => ⟨A1, n1, c1, h1, h2, h3⟩
end Go.Proofs.Ytjpmfomabofjpaa
