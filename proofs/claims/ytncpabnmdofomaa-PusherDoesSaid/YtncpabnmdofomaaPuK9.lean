/- Package pusher, as landed: cut, there. -/
import Derived.Test.YtncpabnmdofomaaPuK8
import Derived.BigRegion
namespace Go.Proofs.Ytncpabnmdofomaa
open Go.RowKit
set_option maxRecDepth 20000

theorem fslice_hi (A : Option Addr) (n c k : Nat) (hk : k ≤ c) (w : World) : (Instr.slice 76 (.slice A n c) none (some (.int .i64 k)) none).run Try.prog w = .ok (.slice A k c) w := by
  obtain ⟨i0, hi, hz0, hz1, hz2⟩ := info_parts Try.infoFn
  have ht : Try.prog.underlying 76 = some (.slice (Try.prog.elem 76)) := by kernel_rfl
  have he : Try.prog.elem 76 = 100 := by kernel_rfl
  rw [run_slice_h _ _ _ _ _ ht .i64 k (by omega) (by omega), he]
  simp [Go.sizeOf, typeInfo, hi, hz1, sliced, map_add0]
theorem fslice_lhm (A : Option Addr) (n c k : Nat) (hk : k ≤ n) (hc : n ≤ c) (w : World) : (Instr.slice 76 (.slice A n c) (some (.int .i64 k)) (some (.int .i64 n)) (some (.int .i64 n))).run Try.prog w = .ok (.slice (if n = k then A else A.map (·.add k)) (n - k) (n - k)) w := by
  obtain ⟨i0, hi, hz0, hz1, hz2⟩ := info_parts Try.infoFn
  have ht : Try.prog.underlying 76 = some (.slice (Try.prog.elem 76)) := by kernel_rfl
  have he : Try.prog.elem 76 = 100 := by kernel_rfl
  rw [run_slice_lhm _ _ _ _ _ ht .i64 .i64 .i64 k n n (by omega) (by omega) (by omega) (by omega), he]
  simp [Go.sizeOf, typeInfo, hi, hz1, sliced]
theorem fat_slice (x : Value) (lo hi mx : Option Value) (w : World) : (Instr.sliceAt 76 x lo hi mx).run Try.prog w = (Instr.slice 76 x lo hi mx).run Try.prog w :=
  run_sliceAt_slice _ _ x lo hi mx (by kernel_rfl)
/-- the address of a slice cut at k -/
def cutP (P : Option Addr) (n k : Nat) : Option Addr := if n = k then P else P.map (·.add k)
theorem cutP_some (b o n k : Nat) (h : n ≠ k) : cutP (some ⟨b, o, none⟩) n k = some ⟨b, o + k, none⟩ := by
  unfold cutP
  rw [if_neg h]
  have ea : (⟨b, o, none⟩ : Addr).add k = ⟨b, o + k, none⟩ := by unfold Addr.add; split <;> simp_all
  rw [Option.map_some, ea]
theorem RowB.cut {w : World} {P : Option Addr} {n c k i : Nat} {vs : List Value} (hR : Row w P n c vs) (h : RowB (cutP P n k) (n - k) i) : RowB P c i := by
  obtain ⟨h1, o, h2⟩ := h
  have hle := hR.2.1
  obtain ⟨b, o', cs, rfl, _⟩ := hR.2.2.2 (by omega)
  rw [cutP_some _ _ _ _ (by omega)] at h2
  injection h2 with h2
  injection h2 with h3 _
  subst h3
  exact ⟨by omega, o', rfl⟩
theorem run_clear_row {w : World} {P : Option Addr} {n c : Nat} {vs : List Value} (h : Row w P n c vs) (k : Nat) (hk : k ≤ n) : ∃ w1, (∀ ty, (Builtin.clear_ #[76] ty #[.slice P k c]).run Try.prog w = .ok (.tuple #[]) w1) ∧ Off (RowB P c) w w1 ∧ Row w1 (cutP P n k) (n - k) (n - k) (vs.drop k) := by
  obtain ⟨h1, h2, h3, h4⟩ := h
  obtain ⟨i0, hi, hz0, hz1, hz2⟩ := info_parts Try.infoFn
  have ht : Try.prog.underlying 76 = some (.slice 100) := Try.underlying76
  have hz : ∀ W, (zeroValue 100).run Try.prog W = .ok .nilFunc W := fun W => by kernel_rfl
  rcases Nat.eq_zero_or_pos k with e | e
  · subst e
    refine ⟨w, fun ty => ?_, Off.refl _ _, by simp [h1], Nat.le_refl _, by omega, fun hc => ?_⟩
    · rcases P with _ | a <;> simp [Builtin.clear_, run_underlying ht]
    · obtain ⟨b, o, cs, rfl, h5, h6, h7⟩ := h4 (by omega)
      exact ⟨b, o, cs, cutP_some b o n 0 (by omega), h5, by omega, by simpa using h7⟩
  · obtain ⟨b, o, cs, rfl, h5, h6, h7⟩ := h4 (by omega)
    obtain ⟨cs', r1, r2, r3⟩ := row_setCells (b := b) (t := 100) (List.replicate k .nilFunc) o w cs h5 (by simp; omega)
    refine ⟨w.setCells b o (List.replicate k .nilFunc), fun ty => ?_, (off_setCells (List.replicate k .nilFunc) o w).more (fun i hi => ⟨by omega, o, by rw [hi]⟩), by simp [h1], Nat.le_refl _, by omega, fun hc => ⟨b, o + k, cs', ?_, r1, by omega, fun j hj => ?_⟩⟩
    · exact Lib.run_clear_slice w _ _ ty .nilFunc ht hz rfl rfl b o k c e (fun j hj => by
        rw [cell_of_row w b (o + j) cs _ _ h5, Array.getElem?_eq_getElem (by omega)]
        rfl) (fun j _ => frozen_of_row _ _ _ _ _ h5)
    · exact cutP_some _ _ _ _ (by omega)
    · simp at hj
      rw [r3 _ (by simp), show o + k + j = o + (k + j) by omega, h7 (k + j) (by omega)]
      simp
/-- behind the cut -/
theorem EnV.cut {T : Nat → Int → List Tmr → World → (Nat → Prop) → Prop} (C : TmC T) {x gt : Nat} {P : Option Addr} {n pc : Nat} {vs : List Value} {s : Pus} {Xt Xc : Nat → Prop} {w w1 : World} (h : EnV T x gt P n pc vs s s.base Xt Xc w) (k : Nat) (hk : k ≤ n) (O : Off (RowB P pc) w w1) (hR : Row w1 (cutP P n k) (n - k) (n - k) (vs.drop k)) :
    EnV T x gt (cutP P n k) (n - k) (n - k) (vs.drop k) s (s.base + k) Xt Xc (w1.setCell ⟨x, 6, none⟩ (.slice (cutP P n k) (n - k) (n - k))) ∧ Turns (EnX x P pc Xt Xc) (EnX x (cutP P n k) (n - k) Xt Xc) w (w1.setCell ⟨x, 6, none⟩ (.slice (cutP P n k) (n - k) (n - k))) := by
  have hx := lt_row h.row
  have hle := h.lst.2.1
  have hP : ∀ i, RowB (cutP P n k) (n - k) i → RowB P pc i := fun i hi => RowB.cut h.lst hi
  have O3 : Off (· = x) w1 (w1.setCell ⟨x, 6, none⟩ (.slice (cutP P n k) (n - k) (n - k))) := (Off.refl (· = x) w1).setCell (p := ⟨x, 6, none⟩) (.inl rfl) _
  have hx2 : w1.heap[x]? = _ := (O.block x hx h.nrx).trans h.row
  have hx3 := heap_setCell_same w1 x 6 _ _ (.slice (cutP P n k) (n - k) (n - k)) hx2
  have hcnt := h.cnt
  refine ⟨⟨by simpa [ecells] using hx3, ?_, hR.off O3 (fun i hi e => h.nrx (e ▸ hP i hi)), by omega, fun j hj => ?_, fun i hi => Nat.lt_of_lt_of_le (h.xlt i hi) (Nat.le_trans O.size O3.size), h.nxt, h.nxc, h.nct, fun e => h.nrx (hP x e), fun i hi => h.nrt i (hP i hi), fun i hi => h.nrc i (hP i hi)⟩, ⟨(O.more (fun i hi => .inr (.inr (.inr hi)))).trans (O3.more (fun i hi => .inl hi)), fun i hi => .inl ?_⟩⟩
  · exact (C.holds _ _ _).off ((C.holds _ _ _).off h.tm O (fun i hi e => h.nrt i e hi)) O3 (fun i hi e => h.nxt (e ▸ hi))
  · simp at hj
    have h1 := ((h.clo (k + j) (by omega)).off O (fun i hi e => h.nrc i e hi)).off O3 (fun i hi e => h.nxc (e ▸ hi))
    rw [List.getElem_drop, show s.base + k + j = s.base + (k + j) by omega]
    exact h1
  · rcases hi with hi | hi | hi | hi
    · exact .inl hi
    · exact .inr (.inl hi)
    · exact .inr (.inr (.inl hi))
    · exact .inr (.inr (.inr (hP i hi)))
def GivesCut (T : Nat → Int → List Tmr → World → (Nat → Prop) → Prop) (x gt : Nat) (P : Option Addr) (n pc k : Nat) (vs : List Value) (s : Pus) (Xt Xc : Nat → Prop) (w : World) (e : Ending) (w' : World) : Prop := e = .returned (.tuple #[]) ∧ EnV T x gt (cutP P n k) (n - k) (n - k) (vs.drop k) s (s.base + k) Xt Xc w' ∧ Turns (EnX x P pc Xt Xc) (EnX x (cutP P n k) (n - k) Xt Xc) w w'
set_option maxHeartbeats 8000000 in
theorem pucut_any {T : Nat → Int → List Tmr → World → (Nat → Prop) → Prop} (C : TmC T) {x gt : Nat} {P : Option Addr} {n pc : Nat} {vs : List Value} {s : Pus} {Xt Xc : Nat → Prop} {w : World} (h : EnV T x gt P n pc vs s s.base Xt Xc w) (k : Nat) (hk : k ≤ n) :
    Calls Try.prog 59 #[.pointer (some ⟨x, 0, none⟩), .int .i64 (k : Int)] w (GivesCut T x gt P n pc k vs s Xt Xc w) := by
  have hle := h.lst.2.1
  obtain ⟨w1, hclr, O1, hR1⟩ := run_clear_row h.lst k hk
  have e1 : ∀ W, (Instr.slice 76 (.slice P n pc) none (some (.int .i64 k)) none).run Try.prog W = .ok (.slice P k pc) W := fun W => fslice_hi P n pc k (by omega) W
  have e1' : ∀ W, (Instr.sliceAt 76 (.slice P n pc) none (some (.int .i64 k)) none).run Try.prog W = .ok (.slice P k pc) W := fun W => (fat_slice _ _ _ _ W).trans (fslice_hi P n pc k (by omega) W)
  have e3 : ∀ W, (Instr.slice 76 (.slice P n pc) (some (.int .i64 k)) (some (.int .i64 n)) (some (.int .i64 n))).run Try.prog W = .ok (.slice (cutP P n k) (n - k) (n - k)) W := fun W => fslice_lhm P n pc k hk hle W
  have e3' : ∀ W, (Instr.sliceAt 76 (.slice P n pc) (some (.int .i64 k)) (some (.int .i64 n)) (some (.int .i64 n))).run Try.prog W = .ok (.slice (cutP P n k) (n - k) (n - k)) W := fun W => (fat_slice _ _ _ _ W).trans (fslice_lhm P n pc k hk hle W)
  have c6 := h.cells.1.2.2.2.2.2.2
  have hb1 := (O1.block x (lt_row h.row) h.nrx).trans h.row
  have k6 : w1.cell? ⟨x, 6, none⟩ = some (.slice P n pc) := cell_of_row _ _ _ _ _ _ hb1
  have f6 : w1.frozen? ⟨x, 6, none⟩ = false := frozen_of_row _ _ _ _ _ hb1
  have HE := Lib.hid (h.cut C k hk O1 hR1)
  unfold GivesCut
  clear h O1 hR1 hb1 hle hk
  generalize cutP P n k = P' at *
  go_enter Try.func59, Try.ntmps59
  go_wp2_with (fail)
  go_region
  go_wp2
  go_end0
  exact ⟨rfl, HE.out.1.below C ((Below.refl _ _).drew), HE.out.2.next ((Below.refl _ _).drew)⟩
theorem tmLeft_zero {most : Int} {l : List Tmr} (h : TmOk most l) (q : Int) : tmIs l q = false ∧ (tmLeft l q).1 = 0 ∨ tmIs l q = true ∧ 1 ≤ (tmLeft l q).1 := by
  cases hf : tmIs l q with
  | false => exact .inl ⟨rfl, by rw [tmLeft_no h q hf]⟩
  | true =>
    refine .inr ⟨rfl, ?_⟩
    have hm := (tk_is h q).1 hf
    unfold tmKeys at hm
    obtain ⟨t, ht, rfl⟩ := List.mem_map.1 hm
    obtain ⟨j, hj, rfl⟩ := List.mem_iff_getElem.1 ht
    rw [tmLeft_at h j hj]
    exact (h.2.2 l[j] (List.getElem_mem hj)).2.1.1
def GivesThere (T : Nat → Int → List Tmr → World → (Nat → Prop) → Prop) (x gt : Nat) (P : Option Addr) (pc q : Nat) (s : Pus) (Xt Xc : Nat → Prop) (w : World) (e : Ending) (w' : World) : Prop := e = .returned (.tuple #[]) ∧ ∃ P' n' pc' vs' Xt', EnV T x gt P' n' pc' vs' { s with base := q, tm := puKeep q s.next (puClr (q - s.base) s.base s.tm) } q Xt' Xc w' ∧ Turns (EnX x P pc Xt Xc) (EnX x P' pc' Xt' Xc) w w'
set_option maxHeartbeats 16000000 in
theorem puthere_any {T : Nat → Int → List Tmr → World → (Nat → Prop) → Prop} (C : TmC T) {x gt : Nat} {P : Option Addr} {n pc : Nat} {vs : List Value} {s : Pus} {Xt Xc : Nat → Prop} {w : World} (h : EnV T x gt P n pc vs s s.base Xt Xc w) (hok : PsOk s) (hb : s.ls.length < 100000) (q : Nat) (hbq : s.base ≤ q) (hqn : q ≤ s.next) :
    Calls Try.prog 51 #[.pointer (some ⟨x, 0, none⟩), .int .i64 (q : Int)] w (GivesThere T x gt P pc q s Xt Xc w) := by
  have HR := Lib.hid h
  have hnl := hok.2.1
  have hcnt := h.cnt
  have hcl := puClr_keys (most := s.c.b) (q - s.base) s.base s.tm hok.2.2.2.2.1
  have HTL := Lib.hid hok.tlen
  have HOKT := Lib.hid hok.2.2.2.2.1
  have HCL := Lib.hid hcl
  have c4 := h.cells.1.2.2.2.2.1
  unfold GivesThere
  clear h hok hcl
  go_enter Try.func51, Try.ntmps51
  go_wp2_with (fail)
  go_loopw [4] (fun i wr => ∃ (k j : Nat) (Xt' : Nat → Prop), k ≤ q ∧ i = .int .i64 (k : Int) ∧ Hid (k = s.base + j) ∧ Hid (EnV T x gt P n pc vs { s with tm := puClr j s.base s.tm } s.base Xt' Xc wr) ∧ Hid (Turns (EnX x P pc Xt Xc) (EnX x P pc Xt' Xc) w wr)) (fun i _ => q - (intOf i).toNat)
  case atStart => exact ⟨s.base, 0, Xt, hbq, rfl, rfl, HR, Turns.of_below (Below.refl _ _)⟩
  case round =>
    obtain ⟨k, j, Xt', hk, rfl, HKJ, HRR, HTT⟩ := hrel
    clear c4
    by_cases hlt : k < q
    · have d0 : decide ((k : Int) < (q : Int)) = true := by simp; omega
      obtain ⟨-, -, -, c3, -, -, -⟩ := HRR.out.cells.1
      have hj := puClr_keys (most := s.c.b) j s.base s.tm HOKT.out
      have HC := Lib.hid (C.clear gt s.c.b (puClr j s.base s.tm) (k : Int) wr Xt' HRR.out.tm hj.1 ⟨by omega, by omega⟩ (by have := HTL.out; omega))
      clear hj
      go_wp2_with (fail)
      refine HC.out.mono ?_
      rintro e w3 ⟨rfl, Xt2, q3, t3⟩
      have HR3 := Lib.hid (HRR.out.t q3 t3)
      have HE3 : Hid (puClr (j + 1) s.base s.tm = tmClear (puClr j s.base s.tm) (k : Int)) := by show _ = _; rw [HKJ.out]; exact puClr_succ _ _ _
      clear q3 t3 c3
      go_wp2
      go_roundw
      case rel => exact ⟨k + 1, j + 1, Xt2, by omega, by go_num, by show k + 1 = _; have := HKJ.out; omega, by rw [HE3.out]; exact HR3.out.1, HTT.out.trans HR3.out.2⟩
      case measure => simp [intOf]; omega
    · have d0 : decide ((k : Int) < (q : Int)) = false := by simp; omega
      obtain rfl : k = q := by omega
      have hj : j = k - s.base := by have := HKJ.out; omega
      subst hj
      have hsub : IntKind.i64.wrap ((k : Int) - (s.base : Int)) = ((k - s.base : Nat) : Int) := by
        rw [show (k : Int) - (s.base : Int) = ((k - s.base : Nat) : Int) by omega]
        exact IntWalk.i64_in _ (by omega)
      have hkn : k - s.base ≤ n := by omega
      have HCUT := Lib.hid (pucut_any C HRR.out (k - s.base) hkn)
      obtain ⟨-, -, -, -, c4, -, -⟩ := HRR.out.cells.1
      have c4 : wr.cell? ⟨x, 4, none⟩ = some (.int .i64 (s.base : Int)) := c4
      have HKB : Hid (s.base + (k - s.base) = k) := by show _ = _; omega
      obtain ⟨d, hd⟩ : ∃ d, k - s.base = d := ⟨_, rfl⟩
      rw [hd] at hsub hkn HCUT HKB HRR HCL
      have HD := Lib.hid hd
      obtain ⟨tm1, htm1⟩ : ∃ t, puClr d s.base s.tm = t := ⟨_, rfl⟩
      rw [htm1] at HCUT HRR HCL
      have HTM1 := Lib.hid htm1
      clear hd htm1
      go_wp2_with (fail)
      refine HCUT.out.mono ?_
      rintro e w2 ⟨rfl, R2, t2⟩
      have HT2 := Lib.hid (HTT.out.trans t2)
      have R2 : EnV T x gt (cutP P n d) (n - d) (n - d) (vs.drop d) { s with tm := tm1 } (s.base + d) Xt' Xc w2 := R2
      rw [HKB.out] at R2
      have HR4 := Lib.hid (R2.st C (s' := { s with tm := tm1, base := k }) 4 (.int .i64 (k : Int)) rfl rfl rfl rfl)
      have gf4 := R2.cells.2 4
      have g4 := R2.cells.1.2.2.2.2.1
      have HT4 := Lib.hid (HT2.out.trans HR4.out.2)
      have hlf := C.left gt s.c.b tm1 (k : Int) (w2.setCell ⟨x, 4, none⟩ (.int .i64 (k : Int))) Xt' HR4.out.1.tm HCL.out.1 ⟨by omega, by omega⟩ (by have := HCL.out.2.2; have := HTL.out; omega)
      have HLF := Lib.hid hlf
      have hz := tmLeft_zero HCL.out.1 (k : Int)
      obtain ⟨-, -, -, g3, -, -, -⟩ := HR4.out.1.cells.1
      clear R2 t2 c4 hlf HT2 HCUT
      obtain ⟨tl, htl⟩ : ∃ tl, (tmLeft tm1 (k : Int)).1 = tl := ⟨_, rfl⟩
      obtain ⟨tr, htr⟩ : ∃ tr, (tmLeft tm1 (k : Int)).2 = tr := ⟨_, rfl⟩
      rw [htl, htr] at HLF
      rw [htl] at hz
      clear htl htr
      go_wp2_with (fail)
      generalize w2.setCell ⟨x, 4, none⟩ (.int .i64 (k : Int)) = w4 at *
      refine HLF.out.mono ?_
      rintro e w5 ⟨rfl, T5⟩
      have HR5 := Lib.hid (HR4.out.1.below C T5)
      have HT5 := Lib.hid (HT4.out.next T5)
      obtain ⟨-, -, -, g3, -, g5, -⟩ := HR5.out.cells.1
      have g5 : w5.cell? ⟨x, 5, none⟩ = some (.int .i64 (s.next : Int)) := g5
      have g3 : w5.cell? ⟨x, 3, none⟩ = some (.pointer (some ⟨gt, 0, none⟩)) := g3
      clear HR4 HT4 T5 HLF g4 gf4
      by_cases hkn2 : k < s.next
      · have dk : decide ((k : Int) < (s.next : Int)) = true := by simp; omega
        have dk' : decide (k < s.next) = true := by simp; omega
        rcases hz with ⟨his, h0⟩ | ⟨his, h0⟩
        · have n0 : (tl == 0) = true := by simp [h0]
          have HKT : Hid (puKeep k s.next tm1 = tmSet tm1 (k : Int)) := by show _ = _; unfold puKeep; rw [if_pos ⟨his, hkn2⟩]
          have HST := Lib.hid (C.set gt s.c.b tm1 (k : Int) w5 Xt' HR5.out.tm HCL.out.1 ⟨by omega, by omega⟩ (by have := HCL.out.2.2; have := HTL.out; omega))
          subst h0
          go_wp2_with (fail)
          refine HST.out.mono ?_
          rintro e w6 ⟨rfl, Xt6, q6, t6⟩
          have HR6 := Lib.hid (HR5.out.t q6 t6)
          clear q6 t6
          go_wp2
          go_end0
          exact ⟨rfl, _, _, _, _, Xt6, by rw [HD.out, HTM1.out, HKT.out]; exact HR6.out.1, HT5.out.trans HR6.out.2⟩
        · have n0 : (tl == 0) = false := by simp; omega
          have n0' : ¬ tl = 0 := by omega
          have HKT : Hid (puKeep k s.next tm1 = tm1) := by show _ = _; unfold puKeep; rw [if_neg (by rw [his]; simp)]
          go_wp2
          go_end0
          exact ⟨rfl, _, _, _, _, Xt', by rw [HD.out, HTM1.out, HKT.out]; exact HR5.out, HT5.out⟩
      · have dk : decide ((k : Int) < (s.next : Int)) = false := by simp; omega
        have dk' : decide (k < s.next) = false := by simp; omega
        have HKT : Hid (puKeep k s.next tm1 = tm1) := by show _ = _; unfold puKeep; rw [if_neg (fun e => hkn2 e.2)]
        go_wp2
        go_end0
        exact ⟨rfl, _, _, _, _, Xt', by rw [HD.out, HTM1.out, HKT.out]; exact HR5.out, HT5.out⟩
end Go.Proofs.Ytncpabnmdofomaa
