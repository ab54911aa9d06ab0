/- Package deframe as it landed: Feed. -/
import Derived.Test.YtjpmfomabofjpaaDef2
import Derived.Test.YtjpmfomabofjpaaLabels
namespace Go.Proofs.Ytjpmfomabofjpaa
open Go.RowKit

/-- Feed's frame, as far as it is read later -/
def FrmF (S : Nat) (A : Option Addr) (n c : Nat) (v : Value) (z : Int) (a : Act) : Prop :=
  ∃ u2 u3 r u7 u8 u9 u10 u11 u12 u13 u14 u15 u16 u17 u18 u19 u20 u21 u22 u23 u24 u25 u26 u27 u28 u29 u30 u31 u32 u33 u34 u35 u36 u37 u38 u39 u40 u41 u42 u43 u44 u45 u46 u47 u48 u49 u50 u51 u52 u53 u54 u55 u56 u57 u58 u59 u60 u61 u62 u63 u64 u65 u66 u67 u68 u69 u70 u71 u72 u73 u74 u75 u76 u77 u78 u79 u80 u81 u82 u83 u84 u85 u86 u87 u88 u89 u90 u91 u92 u93 u94 u95 u96 u97 u98 u99 u100 u101 u102 u103 u104 u105 u106 u107 u108 u109 : Value, a = { tmps := #[.pointer (some ⟨S, 0, none⟩), .slice A n c, u2, u3, r, v, .int .i64 z, u7, u8, u9, u10, u11, u12, u13, u14, u15, u16, u17, u18, u19, u20, u21, u22, u23, u24, u25, u26, u27, u28, u29, u30, u31, u32, u33, u34, u35, u36, u37, u38, u39, u40, u41, u42, u43, u44, u45, u46, u47, u48, u49, u50, u51, u52, u53, u54, u55, u56, u57, u58, u59, u60, u61, u62, u63, u64, u65, u66, u67, u68, u69, u70, u71, u72, u73, u74, u75, u76, u77, u78, u79, u80, u81, u82, u83, u84, u85, u86, u87, u88, u89, u90, u91, u92, u93, u94, u95, u96, u97, u98, u99, u100, u101, u102, u103, u104, u105, u106, u107, u108, u109], defers := [] }
/-- what Feed is at, at a label -/
def FeedS (l : Nat) (s : Sc) : Sc := if l = 3 then ⟨1, [], s.g, s.b, s.l, s.z⟩ else s
def FeedL (l : Nat) (s : Sc) : Prop := (l = 2 ∧ s.at_ = 0) ∨ (l = 3) ∨ (l = 0 ∧ s.at_ = 1) ∨ (l = 1 ∧ s.at_ = 2)
def FeedJ (w0 : World) (S : Nat) (t : Addr) (st : Sc) (b : List UInt8) (A : Option Addr) (n c : Nat) (l : Nat) (a : Act) (wr : World) : Prop :=
  ∃ (k : Nat) (z : Int) (v : Value) (s : Sc) (found : List (List UInt8)), k ≤ b.length ∧ z + 1 = (k : Int) ∧ FrmF S A n c v z a ∧ scRun (st, []) (b.take k) = (FeedS l s, found) ∧ FeedL l s ∧ OwnR wr w0.heap.size v found ∧ Scn wr S t s ∧ s.h.length ≤ 200 ∧ Off (· = S) w0 wr
def feedM (n : Nat) (a : Act) : Nat := n - (intOf (a.tmps.getD 6 undef) + 1).toNat
/-- Feed's end -/
def FeedP (w0 : World) (S : Nat) (t : Addr) (st : Sc) (b : List UInt8) (e : Ending) (w' : World) : Prop :=
  ∃ v, e = .returned v ∧ OwnR w' w0.heap.size v (scRun (st, []) b).2 ∧ Scn w' S t (scRun (st, []) b).1 ∧ Off (· = S) w0 w'
theorem FrmF.m {S : Nat} {A : Option Addr} {n c : Nat} {v : Value} {z : Int} {a : Act} (h : FrmF S A n c v z a) : feedM n a = n - (z + 1).toNat := by
  obtain ⟨u2, u3, r, u7, u8, u9, u10, u11, u12, u13, u14, u15, u16, u17, u18, u19, u20, u21, u22, u23, u24, u25, u26, u27, u28, u29, u30, u31, u32, u33, u34, u35, u36, u37, u38, u39, u40, u41, u42, u43, u44, u45, u46, u47, u48, u49, u50, u51, u52, u53, u54, u55, u56, u57, u58, u59, u60, u61, u62, u63, u64, u65, u66, u67, u68, u69, u70, u71, u72, u73, u74, u75, u76, u77, u78, u79, u80, u81, u82, u83, u84, u85, u86, u87, u88, u89, u90, u91, u92, u93, u94, u95, u96, u97, u98, u99, u100, u101, u102, u103, u104, u105, u106, u107, u108, u109, rfl⟩ := h
  rfl

theorem sc0f (s : Sc) (h : s.at_ = 0) : scStep s 0x7e = (⟨1, [], s.g, s.b, s.l, s.z⟩, []) := by simp [scStep, h]
theorem sc0 (s : Sc) (x : UInt8) (h : s.at_ = 0) (hx : x ≠ 0x7e) : scStep s x = (⟨s.at_, s.h, s.g, s.b, s.l, s.z + 1⟩, []) := by simp [scStep, h, hx]
theorem sc1 (s : Sc) (x : UInt8) (h : s.at_ = 1) (hx : x ≠ 0x7e) (hl : s.h.length ≠ 200) : scStep s x = (⟨s.at_, s.h ++ [x], s.g, s.b, s.l, s.z⟩, []) := by simp [scStep, h, hx, hl]
theorem sc1l (s : Sc) (x : UInt8) (h : s.at_ = 1) (hx : x ≠ 0x7e) (hl : s.h.length = 200) : scStep s x = (⟨2, s.h, s.g, s.b, s.l, s.z⟩, []) := by simp [scStep, h, hx, hl]
theorem sc2f (s : Sc) (h : s.at_ = 2) : scStep s 0x7e = (⟨1, [], s.g, s.b, s.l + 1, s.z⟩, []) := by simp [scStep, h]
theorem sc2 (s : Sc) (x : UInt8) (h : s.at_ = 2) (hx : x ≠ 0x7e) : scStep s x = (s, []) := by
  obtain ⟨a, hh, g, b, l, z⟩ := s
  subst h
  simp [scStep, hx]
theorem scEnd_shape (s : Sc) : (scEnd s).1 = ⟨1, [], (scEnd s).1.g, (scEnd s).1.b, (scEnd s).1.l, (scEnd s).1.z⟩ := by
  unfold scEnd
  split
  · rfl
  · split <;> rfl

set_option maxHeartbeats 8000000 in
set_option maxRecDepth 100000 in
theorem feed_any (S : Nat) (t : Addr) (st : Sc) (A : Option Addr) (n c : Nat) (b : List UInt8) (w0 : World) (ht : Tab w0 t) (hts : t.block ≠ S) (hs : Scn w0 S t st) (hB : Bys w0 A n c b) (hA : Av (· = S) n A) (hn : n ≤ 1073741824)
    (hat : st.at_ ≤ 2) (hl : st.h.length ≤ 200) (hg : st.g ≤ 1099511627776 ∧ st.b ≤ 1099511627776 ∧ st.l ≤ 1099511627776 ∧ st.z ≤ 1099511627776) :
    Calls Try.prog 37 #[.pointer (some ⟨S, 0, none⟩), .slice A n c] w0 (FeedP w0 S t st b) := by
  have hlen := hB.len
  have hcap := hB.cap
  have hS := hs.lt
  obtain ⟨cs, hh, hcs⟩ := id hs
  have c0 := Scn.cell hh hcs.2.1
  have c1 := Scn.cell hh hcs.2.2.1
  have M := Lib.hid (smade_yes S t w0 c0)
  have HS := Lib.hid hs
  have HB := Lib.hid hB
  have HA := Lib.hid hA
  have HT := Lib.hid ht
  have HG := Lib.hid hg
  clear hh hcs hs hB hA ht hg
  go_enter Try.func37, Try.ntmps37
  go_wp2
  refine wp_scope_labels (FeedJ w0 S t st b A n c) (fun a _ => feedM n a) ?_ ?_
  · have hcase : st.at_ = 0 ∨ st.at_ = 1 ∨ st.at_ = 2 := by omega
    rcases hcase with h0 | h0 | h0
    · have e1 : ((st.at_ : Int) == 1) = false := by rw [h0]; rfl
      have e2 : ((st.at_ : Int) == 2) = false := by rw [h0]; rfl
      have hat2 := Lib.hid h0
      clear h0
      go_wp2_with (fail)
      refine M.out.mono ?_
      rintro e w1 ⟨rfl, rfl⟩
      go_wp2_with (fail)
      obtain ⟨z, hz9⟩ : ∃ z : Int, z = -1 := ⟨_, rfl⟩
      obtain ⟨k, hk9⟩ : ∃ k : Nat, k = 0 := ⟨_, rfl⟩
      rw [← hz9]
      go_step3
      have hat2 := hat2.out
      have hk : k ≤ b.length := by omega
      have hz : z + 1 = (k : Int) := by omega
      have hrun : scRun (st, []) (b.take k) = (st, []) := by rw [hk9]; rfl
      have hO := OwnR.nil w0 w0.heap.size
      have hS2 := HS.out
      have hl2 := hl
      have hoff := Off.refl (· = S) w0
      clear hz9 hk9 e1 e2 c0 c1
      have hz0 : 0 ≤ z + 1 := by omega
      have hz1 : z ≤ 1073741824 := by omega
      have hkk : (k : Int) ≤ 1073741824 := by omega
      by_cases hkn : k = n
      · have e1 : ((k : Int) == (n : Int)) = true := by simp; omega
        have HR : Hid (scRun (st, []) b = (st, [])) := by
          show _ = _
          rw [List.take_of_length_le (by omega)] at hrun
          exact hrun
        have HO := Lib.hid hO
        have HS2 := Lib.hid hS2
        clear hkn hrun hO hS2
        go_wp2_with (fail)
        rw [Jumps.ret]
        go_ret
        exact ⟨_, rfl, by rw [HR.out]; exact HO.out, by rw [HR.out]; exact HS2.out, hoff⟩
      · have e1 : ((k : Int) == (n : Int)) = false := by simp; omega
        obtain ⟨bb, o, rfl, hbb, hcell⟩ := HB.out.at_ (by omega)
        have hkl : k < b.length := by omega
        have hkn2 : k < n := by omega
        have hxc := (hoff.cell (p := ⟨bb, o + k, none⟩) hbb (HA.out (by omega) ⟨bb, o, none⟩ rfl)).trans (hcell k hkl)
        have hx1 := scRun_take (st, []) b k hkl
        have hgr := scRun_grow (b.take k) (st, [])
        have htl : (b.take k).length ≤ 1073741824 := by simp; omega
        rw [hrun] at hx1 hgr
        have hxl := lt256 b[k]
        generalize b[k] = x at *
        simp only [scNext, List.length_nil] at hx1 hgr
        have hbd : st.g ≤ 2199023255552 ∧ st.b ≤ 2199023255552 ∧ st.l ≤ 2199023255552 ∧ st.z ≤ 2199023255552 ∧ ([] : List (List UInt8)).length ≤ 1073741824 := by have := HG.out; (try simp only [List.length_nil] at hgr ⊢); omega
        obtain ⟨hbg, hbb2, hbl, hbz, hbf⟩ := hbd
        clear hcell hgr htl hrun hkn
        by_cases hx : x = 0x7e
        · have e2 : ((x.toNat : Int) == 126) = true := by subst hx; rfl
          have e3 : ((x.toNat : Int) != 126) = false := by subst hx; rfl
          have HR : Hid (scRun (st, []) (b.take (k + 1)) = (FeedS 3 st, [])) := by
            show _ = _
            rw [hx1, hx, sc0f st hat2, List.append_nil]
            rfl
          have HO := Lib.hid hO
          have HS2 := Lib.hid hS2
          clear hx1 hx hO hS2
          go_wp2_with (fail)
          go_step3
          exact ⟨k + 1, k, .slice none 0 0, st, [], by omega, by omega, ⟨_, _, _, _, _, _, _, _, _, _, _, _, _, _, _, _, _, _, _, _, _, _, _, _, _, _, _, _, _, _, _, _, _, _, _, _, _, _, _, _, _, _, _, _, _, _, _, _, _, _, _, _, _, _, _, _, _, _, _, _, _, _, _, _, _, _, _, _, _, _, _, _, _, _, _, _, _, _, _, _, _, _, _, _, _, _, _, _, _, _, _, _, _, _, _, _, _, _, _, _, _, _, _, _, _, _, rfl⟩, HR.out, .inr (.inl rfl), HO.out, HS2.out, hl2, hoff⟩
        · have e2 : ((x.toNat : Int) == 126) = false := u8_ne (b := 0x7e) hx
          have e3 : ((x.toNat : Int) != 126) = true := by simp at e2 ⊢; exact e2
          have HR : Hid (scRun (st, []) (b.take (k + 1)) = (⟨st.at_, st.h, st.g, st.b, st.l, st.z + 1⟩, [])) := by
            show _ = _
            rw [hx1, sc0 st x hat2 hx, List.append_nil]
          obtain ⟨cs2, hh2, hcs2⟩ := hS2
          have d := Scn.cell hh2 hcs2.2.2.2.2.2.2.2.2
          have f := frozen_of_row w0 S 206 cs2 _ hh2
          have HH2 := Lib.hid hh2
          have HC2 := Lib.hid hcs2
          have HO := Lib.hid (hO.off (X := (· = S)) (fun j _ hj => by omega) ((Off.refl _ w0).one 206 (.int .i64 ((st.z : Int) + 1))))
          have HF2 := Lib.hid (hoff.one 206 (.int .i64 ((st.z : Int) + 1)))
          clear hx1 hx hO hh2 hcs2 hoff
          go_wp2_with (fail)
          go_step3
          exact ⟨k + 1, k, .slice none 0 0, ⟨st.at_, st.h, st.g, st.b, st.l, st.z + 1⟩, [], by omega, by omega, ⟨_, _, _, _, _, _, _, _, _, _, _, _, _, _, _, _, _, _, _, _, _, _, _, _, _, _, _, _, _, _, _, _, _, _, _, _, _, _, _, _, _, _, _, _, _, _, _, _, _, _, _, _, _, _, _, _, _, _, _, _, _, _, _, _, _, _, _, _, _, _, _, _, _, _, _, _, _, _, _, _, _, _, _, _, _, _, _, _, _, _, _, _, _, _, _, _, _, _, _, _, _, _, _, _, _, _, rfl⟩, HR.out, .inl ⟨rfl, hat2⟩, HO.out, ⟨_, heap_setCell_same _ _ _ cs2 _ _ HH2.out, HC2.out.noise hl2⟩, hl2, HF2.out⟩
    · have e1 : ((st.at_ : Int) == 1) = true := by rw [h0]; rfl
      have hat2 := Lib.hid h0
      clear h0
      go_wp2_with (fail)
      refine M.out.mono ?_
      rintro e w1 ⟨rfl, rfl⟩
      go_wp2_with (fail)
      go_step3
      exact ⟨0, -1, .slice none 0 0, st, [], Nat.zero_le _, rfl, ⟨_, _, _, _, _, _, _, _, _, _, _, _, _, _, _, _, _, _, _, _, _, _, _, _, _, _, _, _, _, _, _, _, _, _, _, _, _, _, _, _, _, _, _, _, _, _, _, _, _, _, _, _, _, _, _, _, _, _, _, _, _, _, _, _, _, _, _, _, _, _, _, _, _, _, _, _, _, _, _, _, _, _, _, _, _, _, _, _, _, _, _, _, _, _, _, _, _, _, _, _, _, _, _, _, _, _, rfl⟩, rfl, .inr (.inr (.inl ⟨rfl, hat2.out⟩)), OwnR.nil w0 _, HS.out, hl, Off.refl _ w0⟩
    · have e1 : ((st.at_ : Int) == 1) = false := by rw [h0]; rfl
      have e2 : ((st.at_ : Int) == 2) = true := by rw [h0]; rfl
      have hat2 := Lib.hid h0
      clear h0
      go_wp2_with (fail)
      refine M.out.mono ?_
      rintro e w1 ⟨rfl, rfl⟩
      go_wp2_with (fail)
      go_step3
      exact ⟨0, -1, .slice none 0 0, st, [], Nat.zero_le _, rfl, ⟨_, _, _, _, _, _, _, _, _, _, _, _, _, _, _, _, _, _, _, _, _, _, _, _, _, _, _, _, _, _, _, _, _, _, _, _, _, _, _, _, _, _, _, _, _, _, _, _, _, _, _, _, _, _, _, _, _, _, _, _, _, _, _, _, _, _, _, _, _, _, _, _, _, _, _, _, _, _, _, _, _, _, _, _, _, _, _, _, _, _, _, _, _, _, _, _, _, _, _, _, _, _, _, _, _, _, rfl⟩, rfl, .inr (.inr (.inr ⟨rfl, hat2.out⟩)), OwnR.nil w0 _, HS.out, hl, Off.refl _ w0⟩
  · rintro l a wr ⟨k, z, v, s, found, hk, hz, hF, hrun, hL, hO, hS2, hl2, hoff⟩
    have hm := hF.m
    rw [hz, Int.toNat_natCast] at hm
    rw [hm]
    obtain ⟨u2, u3, r, u7, u8, u9, u10, u11, u12, u13, u14, u15, u16, u17, u18, u19, u20, u21, u22, u23, u24, u25, u26, u27, u28, u29, u30, u31, u32, u33, u34, u35, u36, u37, u38, u39, u40, u41, u42, u43, u44, u45, u46, u47, u48, u49, u50, u51, u52, u53, u54, u55, u56, u57, u58, u59, u60, u61, u62, u63, u64, u65, u66, u67, u68, u69, u70, u71, u72, u73, u74, u75, u76, u77, u78, u79, u80, u81, u82, u83, u84, u85, u86, u87, u88, u89, u90, u91, u92, u93, u94, u95, u96, u97, u98, u99, u100, u101, u102, u103, u104, u105, u106, u107, u108, u109, rfl⟩ := hF
    clear hm c0 c1 M
    rcases hL with ⟨rfl, hat2⟩ | rfl | ⟨rfl, hat2⟩ | ⟨rfl, hat2⟩
    · refine ⟨_, rfl, ?_⟩
      have hrun : scRun (st, []) (b.take k) = (s, found) := hrun
      have hz0 : 0 ≤ z + 1 := by omega
      have hz1 : z ≤ 1073741824 := by omega
      have hkk : (k : Int) ≤ 1073741824 := by omega
      by_cases hkn : k = n
      · have e1 : ((k : Int) == (n : Int)) = true := by simp; omega
        have HR : Hid (scRun (st, []) b = (s, found)) := by
          show _ = _
          rw [List.take_of_length_le (by omega)] at hrun
          exact hrun
        have HO := Lib.hid hO
        have HS2 := Lib.hid hS2
        clear hkn hrun hO hS2
        go_wp2_with (fail)
        rw [Jumps.ret]
        go_ret
        exact ⟨_, rfl, by rw [HR.out]; exact HO.out, by rw [HR.out]; exact HS2.out, hoff⟩
      · have e1 : ((k : Int) == (n : Int)) = false := by simp; omega
        obtain ⟨bb, o, rfl, hbb, hcell⟩ := HB.out.at_ (by omega)
        have hkl : k < b.length := by omega
        have hkn2 : k < n := by omega
        have hxc := (hoff.cell (p := ⟨bb, o + k, none⟩) hbb (HA.out (by omega) ⟨bb, o, none⟩ rfl)).trans (hcell k hkl)
        have hx1 := scRun_take (st, []) b k hkl
        have hgr := scRun_grow (b.take k) (st, [])
        have htl : (b.take k).length ≤ 1073741824 := by simp; omega
        rw [hrun] at hx1 hgr
        have hxl := lt256 b[k]
        generalize b[k] = x at *
        simp only [scNext, List.length_nil] at hx1 hgr
        have hbd : s.g ≤ 2199023255552 ∧ s.b ≤ 2199023255552 ∧ s.l ≤ 2199023255552 ∧ s.z ≤ 2199023255552 ∧ found.length ≤ 1073741824 := by have := HG.out; (try simp only [List.length_nil] at hgr ⊢); omega
        obtain ⟨hbg, hbb2, hbl, hbz, hbf⟩ := hbd
        clear hcell hgr htl hrun hkn
        by_cases hx : x = 0x7e
        · have e2 : ((x.toNat : Int) == 126) = true := by subst hx; rfl
          have e3 : ((x.toNat : Int) != 126) = false := by subst hx; rfl
          have HR : Hid (scRun (st, []) (b.take (k + 1)) = (FeedS 3 s, found)) := by
            show _ = _
            rw [hx1, hx, sc0f s hat2, List.append_nil]
            rfl
          have HO := Lib.hid hO
          have HS2 := Lib.hid hS2
          clear hx1 hx hO hS2
          go_wp2_with (fail)
          go_step3
          refine ⟨⟨k + 1, k, v, s, found, by omega, by omega, ⟨_, _, _, _, _, _, _, _, _, _, _, _, _, _, _, _, _, _, _, _, _, _, _, _, _, _, _, _, _, _, _, _, _, _, _, _, _, _, _, _, _, _, _, _, _, _, _, _, _, _, _, _, _, _, _, _, _, _, _, _, _, _, _, _, _, _, _, _, _, _, _, _, _, _, _, _, _, _, _, _, _, _, _, _, _, _, _, _, _, _, _, _, _, _, _, _, _, _, _, _, _, _, _, _, _, _, rfl⟩, HR.out, .inr (.inl rfl), HO.out, HS2.out, hl2, hoff⟩, ?_⟩
          show n - ((k : Int) + 1).toNat < n - k
          omega
        · have e2 : ((x.toNat : Int) == 126) = false := u8_ne (b := 0x7e) hx
          have e3 : ((x.toNat : Int) != 126) = true := by simp at e2 ⊢; exact e2
          have HR : Hid (scRun (st, []) (b.take (k + 1)) = (⟨s.at_, s.h, s.g, s.b, s.l, s.z + 1⟩, found)) := by
            show _ = _
            rw [hx1, sc0 s x hat2 hx, List.append_nil]
          obtain ⟨cs2, hh2, hcs2⟩ := hS2
          have d := Scn.cell hh2 hcs2.2.2.2.2.2.2.2.2
          have f := frozen_of_row wr S 206 cs2 _ hh2
          have HH2 := Lib.hid hh2
          have HC2 := Lib.hid hcs2
          have HO := Lib.hid (hO.off (X := (· = S)) (fun j _ hj => by omega) ((Off.refl _ wr).one 206 (.int .i64 ((s.z : Int) + 1))))
          have HF2 := Lib.hid (hoff.one 206 (.int .i64 ((s.z : Int) + 1)))
          clear hx1 hx hO hh2 hcs2 hoff
          go_wp2_with (fail)
          go_step3
          refine ⟨⟨k + 1, k, v, ⟨s.at_, s.h, s.g, s.b, s.l, s.z + 1⟩, found, by omega, by omega, ⟨_, _, _, _, _, _, _, _, _, _, _, _, _, _, _, _, _, _, _, _, _, _, _, _, _, _, _, _, _, _, _, _, _, _, _, _, _, _, _, _, _, _, _, _, _, _, _, _, _, _, _, _, _, _, _, _, _, _, _, _, _, _, _, _, _, _, _, _, _, _, _, _, _, _, _, _, _, _, _, _, _, _, _, _, _, _, _, _, _, _, _, _, _, _, _, _, _, _, _, _, _, _, _, _, _, _, rfl⟩, HR.out, .inl ⟨rfl, hat2⟩, HO.out, ⟨_, heap_setCell_same _ _ _ cs2 _ _ HH2.out, HC2.out.noise hl2⟩, hl2, HF2.out⟩, ?_⟩
          show n - ((k : Int) + 1).toNat < n - k
          omega
    · refine ⟨_, rfl, ?_⟩
      have hrun : scRun (st, []) (b.take k) = (⟨1, [], s.g, s.b, s.l, s.z⟩, found) := hrun
      obtain ⟨cs2, hh2, hcs2⟩ := hS2
      have d1 := Scn.cell hh2 hcs2.2.2.1
      have d2 := Scn.cell hh2 hcs2.2.2.2.2.1
      have f1 := frozen_of_row wr S 1 cs2 _ hh2
      have f2 := frozen_of_row wr S 202 cs2 _ hh2
      obtain ⟨w2, hw2⟩ : ∃ w2, w2 = (wr.setCell ⟨S, 1, none⟩ (.int .i64 1)).setCell ⟨S, 202, none⟩ (.int .i64 0) := ⟨_, rfl⟩
      have hO2 : OwnR w2 w0.heap.size v found := by
        rw [hw2]
        exact hO.off (X := (· = S)) (fun j _ hj => by omega) (((Off.refl _ wr).one 1 (.int .i64 1)).one 202 (.int .i64 0))
      have hoff2 : Off (· = S) w0 w2 := by
        rw [hw2]
        exact (hoff.one 1 (.int .i64 1)).one 202 (.int .i64 0)
      have hS3 : Scn w2 S t ⟨1, [], s.g, s.b, s.l, s.z⟩ := by
        rw [hw2]
        exact ⟨_, heap_setCell_same _ _ _ _ _ _ (heap_setCell_same _ _ _ cs2 _ _ hh2), (hcs2.atTo 1).clear⟩
      have HO2 := Lib.hid hO2
      have HS3 := Lib.hid hS3
      have HF3 := Lib.hid hoff2
      have HW2 := Lib.hid hw2
      have HRUN := Lib.hid hrun
      clear hh2 hcs2 hO hoff hO2 hS3 hoff2 hw2 hrun
      go_wp2_with (fail)
      rw [← HW2.out]
      go_step3
      clear d1 d2 f1 f2
      have hrun : scRun (st, []) (b.take k) = (⟨1, [], s.g, s.b, s.l, s.z⟩, found) := HRUN.out
      have hO := HO2.out
      have hS2 := HS3.out
      have hoff := HF3.out
      have hl2 : (⟨1, [], s.g, s.b, s.l, s.z⟩ : Sc).h.length ≤ 200 := by simp
      have hat2 : (⟨1, [], s.g, s.b, s.l, s.z⟩ : Sc).at_ = 1 := rfl
      generalize (⟨1, [], s.g, s.b, s.l, s.z⟩ : Sc) = s at *
      clear HO2 HS3 HF3 HW2 HRUN
      have hz0 : 0 ≤ z + 1 := by omega
      have hz1 : z ≤ 1073741824 := by omega
      have hkk : (k : Int) ≤ 1073741824 := by omega
      by_cases hkn : k = n
      · have e1 : ((k : Int) == (n : Int)) = true := by simp; omega
        have HR : Hid (scRun (st, []) b = (s, found)) := by
          show _ = _
          rw [List.take_of_length_le (by omega)] at hrun
          exact hrun
        have HO := Lib.hid hO
        have HS2 := Lib.hid hS2
        clear hkn hrun hO hS2
        go_wp2_with (fail)
        rw [Jumps.ret]
        go_ret
        exact ⟨_, rfl, by rw [HR.out]; exact HO.out, by rw [HR.out]; exact HS2.out, hoff⟩
      · have e1 : ((k : Int) == (n : Int)) = false := by simp; omega
        obtain ⟨bb, o, rfl, hbb, hcell⟩ := HB.out.at_ (by omega)
        have hkl : k < b.length := by omega
        have hkn2 : k < n := by omega
        have hxc := (hoff.cell (p := ⟨bb, o + k, none⟩) hbb (HA.out (by omega) ⟨bb, o, none⟩ rfl)).trans (hcell k hkl)
        have hx1 := scRun_take (st, []) b k hkl
        have hgr := scRun_grow (b.take k) (st, [])
        have htl : (b.take k).length ≤ 1073741824 := by simp; omega
        rw [hrun] at hx1 hgr
        have hxl := lt256 b[k]
        generalize b[k] = x at *
        simp only [scNext, List.length_nil] at hx1 hgr
        have hbd : s.g ≤ 2199023255552 ∧ s.b ≤ 2199023255552 ∧ s.l ≤ 2199023255552 ∧ s.z ≤ 2199023255552 ∧ found.length ≤ 1073741824 := by have := HG.out; (try simp only [List.length_nil] at hgr ⊢); omega
        obtain ⟨hbg, hbb2, hbl, hbz, hbf⟩ := hbd
        clear hcell hgr htl hrun hkn
        by_cases hx : x = 0x7e
        · have e2 : ((x.toNat : Int) == 126) = true := by subst hx; rfl
          have e3 : ((x.toNat : Int) != 126) = false := by subst hx; rfl
          have HR : Hid (scRun (st, []) (b.take (k + 1)) = (FeedS 3 ⟨s.at_, s.h, (scEnd s).1.g, (scEnd s).1.b, (scEnd s).1.l, (scEnd s).1.z⟩, found ++ (scEnd s).2)) := by
            show _ = _
            rw [hx1, hx, scStep1f s hat2]
            exact congrArg (·, found ++ (scEnd s).2) (scEnd_shape s)
          have HE := Lib.hid (send_any w0 S t s v found w2 (HT.out.off (X := (· = S)) hts hoff) hS2 hS hoff hO hl2 (by omega))
          clear hx1 hx hO hS2
          go_wp2_with (fail)
          refine HE.out.mono ?_
          rintro e w1 ⟨v1, rfl, HO1, HS1, HF1⟩
          have HO1 := Lib.hid HO1
          have HS1 := Lib.hid HS1
          have HF1 := Lib.hid HF1
          go_wp2_with (fail)
          go_step3
          refine ⟨⟨k + 1, k, v1, _, _, by omega, by omega, ⟨_, _, _, _, _, _, _, _, _, _, _, _, _, _, _, _, _, _, _, _, _, _, _, _, _, _, _, _, _, _, _, _, _, _, _, _, _, _, _, _, _, _, _, _, _, _, _, _, _, _, _, _, _, _, _, _, _, _, _, _, _, _, _, _, _, _, _, _, _, _, _, _, _, _, _, _, _, _, _, _, _, _, _, _, _, _, _, _, _, _, _, _, _, _, _, _, _, _, _, _, _, _, _, _, _, _, rfl⟩, HR.out, .inr (.inl rfl), HO1.out, HS1.out, hl2, HF1.out⟩, ?_⟩
          show n - ((k : Int) + 1).toNat < n - k
          omega
        · have e2 : ((x.toNat : Int) == 126) = false := u8_ne (b := 0x7e) hx
          have e3 : ((x.toNat : Int) != 126) = true := by simp at e2 ⊢; exact e2
          by_cases h200 : s.h.length = 200
          · have e4 : ((s.h.length : Int) == 200) = true := by rw [h200]; rfl
            have HR : Hid (scRun (st, []) (b.take (k + 1)) = (⟨2, s.h, s.g, s.b, s.l, s.z⟩, found)) := by
              show _ = _
              rw [hx1, sc1l s x hat2 hx h200, List.append_nil]
            obtain ⟨cs2, hh2, hcs2⟩ := hS2
            have d := Scn.cell hh2 hcs2.2.2.2.2.1
            have d1 := Scn.cell hh2 hcs2.2.2.1
            have f := frozen_of_row w2 S 1 cs2 _ hh2
            have HH2 := Lib.hid hh2
            have HC2 := Lib.hid hcs2
            have HO := Lib.hid (hO.off (X := (· = S)) (fun j _ hj => by omega) ((Off.refl _ w2).one 1 (.int .i64 2)))
            have HF2 := Lib.hid (hoff.one 1 (.int .i64 2))
            clear hx1 hx hO hh2 hcs2 hoff h200
            go_wp2_with (fail)
            go_step3
            refine ⟨⟨k + 1, k, v, ⟨2, s.h, s.g, s.b, s.l, s.z⟩, found, by omega, by omega, ⟨_, _, _, _, _, _, _, _, _, _, _, _, _, _, _, _, _, _, _, _, _, _, _, _, _, _, _, _, _, _, _, _, _, _, _, _, _, _, _, _, _, _, _, _, _, _, _, _, _, _, _, _, _, _, _, _, _, _, _, _, _, _, _, _, _, _, _, _, _, _, _, _, _, _, _, _, _, _, _, _, _, _, _, _, _, _, _, _, _, _, _, _, _, _, _, _, _, _, _, _, _, _, _, _, _, _, rfl⟩, HR.out, .inr (.inr (.inr ⟨rfl, rfl⟩)), HO.out, ⟨_, heap_setCell_same _ _ _ cs2 _ _ HH2.out, HC2.out.atTo 2⟩, hl2, HF2.out⟩, ?_⟩
            show n - ((k : Int) + 1).toNat < n - k
            omega
          · have e4 : ((s.h.length : Int) == 200) = false := by simp; omega
            have HR : Hid (scRun (st, []) (b.take (k + 1)) = (⟨s.at_, s.h ++ [x], s.g, s.b, s.l, s.z⟩, found)) := by
              show _ = _
              rw [hx1, sc1 s x hat2 hx h200, List.append_nil]
            have hlt2 : s.h.length < 200 := by omega
            obtain ⟨cs2, hh2, hcs2⟩ := hS2
            have d := Scn.cell hh2 hcs2.2.2.2.2.1
            have f := frozen_of_row w2 S 202 cs2 _ hh2
            have f2 := frozen_of_row w2 S (2 + s.h.length) cs2 _ hh2
            obtain ⟨u, hu⟩ : ∃ u, cs2[2 + s.h.length]? = some u := ⟨_, Array.getElem?_eq_getElem (by have := hcs2.1; omega)⟩
            have d2 := Scn.cell hh2 hu
            have HH2 := Lib.hid hh2
            have HC2 := Lib.hid hcs2
            have HL2 := Lib.hid hl2
            have hne : ¬ (2 + s.h.length = 202) := by omega
            have HO := Lib.hid (fun (q : Value) => hO.off (X := (· = S)) (fun j _ hj => by omega) ((((Off.refl _ w2).drew).one (2 + s.h.length) (.int .u8 (x.toNat : Int))).one 202 q))
            have HF2 := Lib.hid (fun (q : Value) => ((hoff.drew).one (2 + s.h.length) (.int .u8 (x.toNat : Int))).one 202 q)
            clear hx1 hx hO hh2 hcs2 hoff h200 hu
            go_wp2_with (fail)
            go_region
            go_wp2_with (fail)
            go_step3
            refine ⟨⟨k + 1, k, v, ⟨s.at_, s.h ++ [x], s.g, s.b, s.l, s.z⟩, found, by omega, by omega, ⟨_, _, _, _, _, _, _, _, _, _, _, _, _, _, _, _, _, _, _, _, _, _, _, _, _, _, _, _, _, _, _, _, _, _, _, _, _, _, _, _, _, _, _, _, _, _, _, _, _, _, _, _, _, _, _, _, _, _, _, _, _, _, _, _, _, _, _, _, _, _, _, _, _, _, _, _, _, _, _, _, _, _, _, _, _, _, _, _, _, _, _, _, _, _, _, _, _, _, _, _, _, _, _, _, _, _, rfl⟩, HR.out, .inr (.inr (.inl ⟨rfl, hat2⟩)), HO.out _, ⟨_, heap_setCell_same _ _ _ _ _ _ (heap_setCell_same _ _ _ cs2 _ _ HH2.out), HC2.out.push hlt2 x⟩, by simp; omega, HF2.out _⟩, ?_⟩
            show n - ((k : Int) + 1).toNat < n - k
            omega
    · refine ⟨_, rfl, ?_⟩
      have hrun : scRun (st, []) (b.take k) = (s, found) := hrun
      have hz0 : 0 ≤ z + 1 := by omega
      have hz1 : z ≤ 1073741824 := by omega
      have hkk : (k : Int) ≤ 1073741824 := by omega
      by_cases hkn : k = n
      · have e1 : ((k : Int) == (n : Int)) = true := by simp; omega
        have HR : Hid (scRun (st, []) b = (s, found)) := by
          show _ = _
          rw [List.take_of_length_le (by omega)] at hrun
          exact hrun
        have HO := Lib.hid hO
        have HS2 := Lib.hid hS2
        clear hkn hrun hO hS2
        go_wp2_with (fail)
        rw [Jumps.ret]
        go_ret
        exact ⟨_, rfl, by rw [HR.out]; exact HO.out, by rw [HR.out]; exact HS2.out, hoff⟩
      · have e1 : ((k : Int) == (n : Int)) = false := by simp; omega
        obtain ⟨bb, o, rfl, hbb, hcell⟩ := HB.out.at_ (by omega)
        have hkl : k < b.length := by omega
        have hkn2 : k < n := by omega
        have hxc := (hoff.cell (p := ⟨bb, o + k, none⟩) hbb (HA.out (by omega) ⟨bb, o, none⟩ rfl)).trans (hcell k hkl)
        have hx1 := scRun_take (st, []) b k hkl
        have hgr := scRun_grow (b.take k) (st, [])
        have htl : (b.take k).length ≤ 1073741824 := by simp; omega
        rw [hrun] at hx1 hgr
        have hxl := lt256 b[k]
        generalize b[k] = x at *
        simp only [scNext, List.length_nil] at hx1 hgr
        have hbd : s.g ≤ 2199023255552 ∧ s.b ≤ 2199023255552 ∧ s.l ≤ 2199023255552 ∧ s.z ≤ 2199023255552 ∧ found.length ≤ 1073741824 := by have := HG.out; (try simp only [List.length_nil] at hgr ⊢); omega
        obtain ⟨hbg, hbb2, hbl, hbz, hbf⟩ := hbd
        clear hcell hgr htl hrun hkn
        by_cases hx : x = 0x7e
        · have e2 : ((x.toNat : Int) == 126) = true := by subst hx; rfl
          have e3 : ((x.toNat : Int) != 126) = false := by subst hx; rfl
          have HR : Hid (scRun (st, []) (b.take (k + 1)) = (FeedS 3 ⟨s.at_, s.h, (scEnd s).1.g, (scEnd s).1.b, (scEnd s).1.l, (scEnd s).1.z⟩, found ++ (scEnd s).2)) := by
            show _ = _
            rw [hx1, hx, scStep1f s hat2]
            exact congrArg (·, found ++ (scEnd s).2) (scEnd_shape s)
          have HE := Lib.hid (send_any w0 S t s v found wr (HT.out.off (X := (· = S)) hts hoff) hS2 hS hoff hO hl2 (by omega))
          clear hx1 hx hO hS2
          go_wp2_with (fail)
          refine HE.out.mono ?_
          rintro e w1 ⟨v1, rfl, HO1, HS1, HF1⟩
          have HO1 := Lib.hid HO1
          have HS1 := Lib.hid HS1
          have HF1 := Lib.hid HF1
          go_wp2_with (fail)
          go_step3
          refine ⟨⟨k + 1, k, v1, _, _, by omega, by omega, ⟨_, _, _, _, _, _, _, _, _, _, _, _, _, _, _, _, _, _, _, _, _, _, _, _, _, _, _, _, _, _, _, _, _, _, _, _, _, _, _, _, _, _, _, _, _, _, _, _, _, _, _, _, _, _, _, _, _, _, _, _, _, _, _, _, _, _, _, _, _, _, _, _, _, _, _, _, _, _, _, _, _, _, _, _, _, _, _, _, _, _, _, _, _, _, _, _, _, _, _, _, _, _, _, _, _, _, rfl⟩, HR.out, .inr (.inl rfl), HO1.out, HS1.out, hl2, HF1.out⟩, ?_⟩
          show n - ((k : Int) + 1).toNat < n - k
          omega
        · have e2 : ((x.toNat : Int) == 126) = false := u8_ne (b := 0x7e) hx
          have e3 : ((x.toNat : Int) != 126) = true := by simp at e2 ⊢; exact e2
          by_cases h200 : s.h.length = 200
          · have e4 : ((s.h.length : Int) == 200) = true := by rw [h200]; rfl
            have HR : Hid (scRun (st, []) (b.take (k + 1)) = (⟨2, s.h, s.g, s.b, s.l, s.z⟩, found)) := by
              show _ = _
              rw [hx1, sc1l s x hat2 hx h200, List.append_nil]
            obtain ⟨cs2, hh2, hcs2⟩ := hS2
            have d := Scn.cell hh2 hcs2.2.2.2.2.1
            have d1 := Scn.cell hh2 hcs2.2.2.1
            have f := frozen_of_row wr S 1 cs2 _ hh2
            have HH2 := Lib.hid hh2
            have HC2 := Lib.hid hcs2
            have HO := Lib.hid (hO.off (X := (· = S)) (fun j _ hj => by omega) ((Off.refl _ wr).one 1 (.int .i64 2)))
            have HF2 := Lib.hid (hoff.one 1 (.int .i64 2))
            clear hx1 hx hO hh2 hcs2 hoff h200
            go_wp2_with (fail)
            go_step3
            refine ⟨⟨k + 1, k, v, ⟨2, s.h, s.g, s.b, s.l, s.z⟩, found, by omega, by omega, ⟨_, _, _, _, _, _, _, _, _, _, _, _, _, _, _, _, _, _, _, _, _, _, _, _, _, _, _, _, _, _, _, _, _, _, _, _, _, _, _, _, _, _, _, _, _, _, _, _, _, _, _, _, _, _, _, _, _, _, _, _, _, _, _, _, _, _, _, _, _, _, _, _, _, _, _, _, _, _, _, _, _, _, _, _, _, _, _, _, _, _, _, _, _, _, _, _, _, _, _, _, _, _, _, _, _, _, rfl⟩, HR.out, .inr (.inr (.inr ⟨rfl, rfl⟩)), HO.out, ⟨_, heap_setCell_same _ _ _ cs2 _ _ HH2.out, HC2.out.atTo 2⟩, hl2, HF2.out⟩, ?_⟩
            show n - ((k : Int) + 1).toNat < n - k
            omega
          · have e4 : ((s.h.length : Int) == 200) = false := by simp; omega
            have HR : Hid (scRun (st, []) (b.take (k + 1)) = (⟨s.at_, s.h ++ [x], s.g, s.b, s.l, s.z⟩, found)) := by
              show _ = _
              rw [hx1, sc1 s x hat2 hx h200, List.append_nil]
            have hlt2 : s.h.length < 200 := by omega
            obtain ⟨cs2, hh2, hcs2⟩ := hS2
            have d := Scn.cell hh2 hcs2.2.2.2.2.1
            have f := frozen_of_row wr S 202 cs2 _ hh2
            have f2 := frozen_of_row wr S (2 + s.h.length) cs2 _ hh2
            obtain ⟨u, hu⟩ : ∃ u, cs2[2 + s.h.length]? = some u := ⟨_, Array.getElem?_eq_getElem (by have := hcs2.1; omega)⟩
            have d2 := Scn.cell hh2 hu
            have HH2 := Lib.hid hh2
            have HC2 := Lib.hid hcs2
            have HL2 := Lib.hid hl2
            have hne : ¬ (2 + s.h.length = 202) := by omega
            have HO := Lib.hid (fun (q : Value) => hO.off (X := (· = S)) (fun j _ hj => by omega) ((((Off.refl _ wr).drew).one (2 + s.h.length) (.int .u8 (x.toNat : Int))).one 202 q))
            have HF2 := Lib.hid (fun (q : Value) => ((hoff.drew).one (2 + s.h.length) (.int .u8 (x.toNat : Int))).one 202 q)
            clear hx1 hx hO hh2 hcs2 hoff h200 hu
            go_wp2_with (fail)
            go_region
            go_wp2_with (fail)
            go_step3
            refine ⟨⟨k + 1, k, v, ⟨s.at_, s.h ++ [x], s.g, s.b, s.l, s.z⟩, found, by omega, by omega, ⟨_, _, _, _, _, _, _, _, _, _, _, _, _, _, _, _, _, _, _, _, _, _, _, _, _, _, _, _, _, _, _, _, _, _, _, _, _, _, _, _, _, _, _, _, _, _, _, _, _, _, _, _, _, _, _, _, _, _, _, _, _, _, _, _, _, _, _, _, _, _, _, _, _, _, _, _, _, _, _, _, _, _, _, _, _, _, _, _, _, _, _, _, _, _, _, _, _, _, _, _, _, _, _, _, _, _, rfl⟩, HR.out, .inr (.inr (.inl ⟨rfl, hat2⟩)), HO.out _, ⟨_, heap_setCell_same _ _ _ _ _ _ (heap_setCell_same _ _ _ cs2 _ _ HH2.out), HC2.out.push hlt2 x⟩, by simp; omega, HF2.out _⟩, ?_⟩
            show n - ((k : Int) + 1).toNat < n - k
            omega
    · refine ⟨_, rfl, ?_⟩
      have hrun : scRun (st, []) (b.take k) = (s, found) := hrun
      have hz0 : 0 ≤ z + 1 := by omega
      have hz1 : z ≤ 1073741824 := by omega
      have hkk : (k : Int) ≤ 1073741824 := by omega
      by_cases hkn : k = n
      · have e1 : ((k : Int) == (n : Int)) = true := by simp; omega
        have HR : Hid (scRun (st, []) b = (s, found)) := by
          show _ = _
          rw [List.take_of_length_le (by omega)] at hrun
          exact hrun
        have HO := Lib.hid hO
        have HS2 := Lib.hid hS2
        clear hkn hrun hO hS2
        go_wp2_with (fail)
        rw [Jumps.ret]
        go_ret
        exact ⟨_, rfl, by rw [HR.out]; exact HO.out, by rw [HR.out]; exact HS2.out, hoff⟩
      · have e1 : ((k : Int) == (n : Int)) = false := by simp; omega
        obtain ⟨bb, o, rfl, hbb, hcell⟩ := HB.out.at_ (by omega)
        have hkl : k < b.length := by omega
        have hkn2 : k < n := by omega
        have hxc := (hoff.cell (p := ⟨bb, o + k, none⟩) hbb (HA.out (by omega) ⟨bb, o, none⟩ rfl)).trans (hcell k hkl)
        have hx1 := scRun_take (st, []) b k hkl
        have hgr := scRun_grow (b.take k) (st, [])
        have htl : (b.take k).length ≤ 1073741824 := by simp; omega
        rw [hrun] at hx1 hgr
        have hxl := lt256 b[k]
        generalize b[k] = x at *
        simp only [scNext, List.length_nil] at hx1 hgr
        have hbd : s.g ≤ 2199023255552 ∧ s.b ≤ 2199023255552 ∧ s.l ≤ 2199023255552 ∧ s.z ≤ 2199023255552 ∧ found.length ≤ 1073741824 := by have := HG.out; (try simp only [List.length_nil] at hgr ⊢); omega
        obtain ⟨hbg, hbb2, hbl, hbz, hbf⟩ := hbd
        clear hcell hgr htl hrun hkn
        by_cases hx : x = 0x7e
        · have e2 : ((x.toNat : Int) == 126) = true := by subst hx; rfl
          have e3 : ((x.toNat : Int) != 126) = false := by subst hx; rfl
          have HR : Hid (scRun (st, []) (b.take (k + 1)) = (FeedS 3 ⟨s.at_, s.h, s.g, s.b, s.l + 1, s.z⟩, found)) := by
            show _ = _
            rw [hx1, hx, sc2f s hat2, List.append_nil]
            rfl
          obtain ⟨cs2, hh2, hcs2⟩ := hS2
          have d := Scn.cell hh2 hcs2.2.2.2.2.2.2.2.1
          have f := frozen_of_row wr S 205 cs2 _ hh2
          have HH2 := Lib.hid hh2
          have HC2 := Lib.hid hcs2
          have HO := Lib.hid (hO.off (X := (· = S)) (fun j _ hj => by omega) ((Off.refl _ wr).one 205 (.int .i64 ((s.l : Int) + 1))))
          have HF2 := Lib.hid (hoff.one 205 (.int .i64 ((s.l : Int) + 1)))
          clear hx1 hx hO hh2 hcs2 hoff
          go_wp2_with (fail)
          go_step3
          refine ⟨⟨k + 1, k, v, ⟨s.at_, s.h, s.g, s.b, s.l + 1, s.z⟩, found, by omega, by omega, ⟨_, _, _, _, _, _, _, _, _, _, _, _, _, _, _, _, _, _, _, _, _, _, _, _, _, _, _, _, _, _, _, _, _, _, _, _, _, _, _, _, _, _, _, _, _, _, _, _, _, _, _, _, _, _, _, _, _, _, _, _, _, _, _, _, _, _, _, _, _, _, _, _, _, _, _, _, _, _, _, _, _, _, _, _, _, _, _, _, _, _, _, _, _, _, _, _, _, _, _, _, _, _, _, _, _, _, rfl⟩, HR.out, .inr (.inl rfl), HO.out, ⟨_, heap_setCell_same _ _ _ cs2 _ _ HH2.out, HC2.out.long hl2⟩, hl2, HF2.out⟩, ?_⟩
          show n - ((k : Int) + 1).toNat < n - k
          omega
        · have e2 : ((x.toNat : Int) == 126) = false := u8_ne (b := 0x7e) hx
          have e3 : ((x.toNat : Int) != 126) = true := by simp at e2 ⊢; exact e2
          have HR : Hid (scRun (st, []) (b.take (k + 1)) = (s, found)) := by
            show _ = _
            rw [hx1, sc2 s x hat2 hx, List.append_nil]
          have HO := Lib.hid hO
          have HS2 := Lib.hid hS2
          clear hx1 hx hO hS2
          go_wp2_with (fail)
          go_step3
          refine ⟨⟨k + 1, k, v, s, found, by omega, by omega, ⟨_, _, _, _, _, _, _, _, _, _, _, _, _, _, _, _, _, _, _, _, _, _, _, _, _, _, _, _, _, _, _, _, _, _, _, _, _, _, _, _, _, _, _, _, _, _, _, _, _, _, _, _, _, _, _, _, _, _, _, _, _, _, _, _, _, _, _, _, _, _, _, _, _, _, _, _, _, _, _, _, _, _, _, _, _, _, _, _, _, _, _, _, _, _, _, _, _, _, _, _, _, _, _, _, _, _, rfl⟩, HR.out, .inr (.inr (.inr ⟨rfl, hat2⟩)), HO.out, HS2.out, hl2, hoff⟩, ?_⟩
          show n - ((k : Int) + 1).toNat < n - k
          omega
end Go.Proofs.Ytjpmfomabofjpaa
