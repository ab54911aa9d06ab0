/- Package tally, as landed: Add. -/
import Derived.Test.YtpdnpfohcnpenaaTlK2
import Derived.Deep.RegionLaw
namespace Go.Proofs.Ytpdnpfohcnpenaa
open Go.RowKit Go.Maps
set_option maxRecDepth 20000

theorem two_new (w : World) (a b : Value) (t : TypeId) : (w.alloc (.cells #[a, b] t)).cell? ⟨w.heap.size, 0, none⟩ = some a ∧ (w.alloc (.cells #[a, b] t)).cell? ⟨w.heap.size, 1, none⟩ = some b :=
  ⟨cell_of_row _ _ _ _ _ _ (heap_alloc_new w _), cell_of_row _ _ _ _ _ _ (heap_alloc_new w _)⟩
set_option maxHeartbeats 4000000 in
theorem tladd_old (g : Nat) (l : List Tal) (a : Int) (A : Option Addr) (n c : Nat) (d : List UInt8) (w : World) (X : Nat → Prop) (hT : TlP g l w X) (ha : I64 a) (hB : Bys w A n c d) (hk : alAt l a d < l.length) (hcnt : alCount l a d < 1000000) :
    Calls Try.prog 46 #[.pointer (some ⟨g, 0, none⟩), .int .i64 a, .slice A n c] w fun e w' => e = .returned (.int .u64 ((alCount l a d : Nat) + 1 : Int)) ∧ ∃ X', TlP g (alAdd l a d) w' X' ∧ Turns X X' w w' := by
  obtain ⟨m, v, hI, hX, hXm, hXv, hlt⟩ := hT
  have H1 := Lib.hid (tlmade_any g m v l w hI)
  obtain ⟨P, cc, rfl, k1, k2, k3⟩ := hI.own.shape
  obtain ⟨c0, c1, _, _, hgw⟩ := hI.cells
  have hd : d.length ≤ maxLen := by have := hB.len; have := hB.le; have := hB.cap; unfold maxLen; omega
  have kc := conv_bys hB
  have hsz : ∀ o : Obj, (w.alloc o).heap.size = w.heap.size + 1 := fun o => by simp
  have hU : ∀ o : Obj, Below w.heap.size w (w.alloc o) := fun o => (Below.refl _ _).alloc (Nat.le_refl _) o
  have K : Hid (∀ (W : World) (o : Obj), Below (w.alloc o).heap.size (w.alloc o) W → W.cell? ⟨g, 0, none⟩ = some (.map (some m)) ∧ (Instr.lookup 92 (.map (some m)) (.agg #[.int .i64 a, .string ⟨d.toArray⟩]) true).run Try.prog W = .ok (.tuple #[.int .i64 (((alPl l a d).getD 0 : Nat) : Int), .bool (alPl l a d).isSome]) W ∧ W.cell? ⟨g, 1, none⟩ = some (.slice P l.length cc)) := fun W o T =>
    have U := nxt (hU o) T
    ⟨(U.cell (p := ⟨g, 0, none⟩) hgw).trans c0, (hI.below U).map.look a d ha hd, (U.cell (p := ⟨g, 1, none⟩) hgw).trans c1⟩
  have haf := alAdd_found l a d hk
  have hcf := alCount_found l a d hk
  have hlook := alPl_some hk
  obtain ⟨b, rfl, hob1, hbw, hbf, hcl⟩ := k3 (by omega)
  obtain ⟨_, _, t2⟩ := hcl _ hk
  obtain ⟨hbg, hbm⟩ := hI.far b hob1
  have hbX := hXv b hob1
  rw [haf]
  rw [hcf] at hcnt ⊢
  rw [hlook] at K
  have HE : Hid (∀ w1, Below w.heap.size w w1 → ∃ X', TlP g (l.set (alAt l a d) (l[alAt l a d].1, l[alAt l a d].2.1, l[alAt l a d].2.2 + 1)) (w1.setCell ⟨b, alAt l a d * 3 + 2, none⟩ (.int .u64 ((l[alAt l a d].2.2 : Int) + 1))) X' ∧ Turns X X' w (w1.setCell ⟨b, alAt l a d * 3 + 2, none⟩ (.int .u64 ((l[alAt l a d].2.2 : Int) + 1)))) := fun w1 T => by
    have h1 := hI.below T
    have h2 := h1.own.counted rfl hk (l[alAt l a d].2.2 + 1)
    have O : Off (· = b) w1 (w1.setCell ⟨b, alAt l a d * 3 + 2, none⟩ (.int .u64 ((l[alAt l a d].2.2 : Int) + 1))) := (Off.refl (· = b) w1).one _ _
    have h3 : TlI g m (.slice (some ⟨b, 0, none⟩) l.length cc) (l.set (alAt l a d) (l[alAt l a d].1, l[alAt l a d].2.1, l[alAt l a d].2.2 + 1)) (w1.setCell ⟨b, alAt l a d * 3 + 2, none⟩ (.int .u64 ((l[alAt l a d].2.2 : Int) + 1))) :=
      ⟨(O.block g (lt_of_block h1.row) (fun e => hbg e.symm)).trans h1.row, h1.ne, by rw [List.length_set, alPl_set l _ hk]; exact h1.map.off O (fun e => hbm e.symm), by simpa using h2, h1.far⟩
    exact TlP.turned hX hlt h3 ((Off.of_below T).trans (O.more (fun k hk => by subst hk; exact hbX))) (.inl hXm) (fun k hk => .inl (hXv k hk))
  generalize l[alAt l a d].2.2 = cnt at *
  generalize l.set (alAt l a d) (l[alAt l a d].1, l[alAt l a d].2.1, cnt + 1) = L2 at *
  obtain ⟨k, hkk⟩ : ∃ k, alAt l a d = k := ⟨_, rfl⟩
  have HF := Lib.hid (fun W (T : Below w.heap.size w W) => And.intro ((T.cell (p := ⟨b, alAt l a d * 3 + 2, none⟩) hbw).trans t2) ((frozen_of_block (T.block b hbw) (alAt l a d * 3 + 2)).trans (hbf _)))
  rw [hkk] at HE hk K HF
  obtain ⟨ln, hln⟩ : ∃ ln, l.length = ln := ⟨_, rfl⟩
  rw [hln] at K k1 hk
  have d1 : (k : Int) < (ln : Int) := by omega
  have hw1 : IntKind.u64.wrap ((cnt : Int) + 1) = (cnt : Int) + 1 := IntWalk.u64_in _ (by omega)
  have HU := Lib.hid hU
  have HN := Lib.hid (two_new w (.int .i64 a) (.string ⟨d.toArray⟩) 111)
  have HD : Hid (Below w.heap.size w (w.alloc (.cells #[.int .i64 a, .string ⟨d.toArray⟩] 111)).drew ∧ Below (w.alloc (.cells #[.int .i64 a, .string ⟨d.toArray⟩] 111)).heap.size (w.alloc (.cells #[.int .i64 a, .string ⟨d.toArray⟩] 111)) (w.alloc (.cells #[.int .i64 a, .string ⟨d.toArray⟩] 111)).drew) := ⟨(hU _).drew, (Below.refl _ _).drew⟩
  clear hI hB k3 hcl hln hkk haf hcf hlook hXv hlt hbf t2 c0 c1 hU
  go_enter Try.func46, Try.ntmps46
  go_wp2_with (fail)
  refine H1.out.mono ?_
  rintro e w1 ⟨rfl, rfl⟩
  go_wp2_with (fail)
  go_region_held3 (fun w' => w'.cell? ⟨w.heap.size, 0, none⟩ = some (.int .i64 a) ∧ w'.cell? ⟨w.heap.size, 1, none⟩ = some (.string ⟨d.toArray⟩) ∧ w'.cell? ⟨g, 0, none⟩ = some (.map (some m)) ∧ (Instr.lookup 92 (.map (some m)) (.agg #[.int .i64 a, .string ⟨d.toArray⟩]) true).run Try.prog w' = .ok (.tuple #[.int .i64 (k : Int), .bool true]) w' ∧ w'.cell? ⟨g, 1, none⟩ = some (.slice (some ⟨b, 0, none⟩) ln cc)) (first | exact ⟨HN.out.1, HN.out.2, K.out _ _ (Below.refl _ _)⟩ | exact ⟨HN.out.1, HN.out.2, K.out _ _ (Below.drew (Below.refl _ _))⟩) (fail)
  all_goals
    obtain ⟨e0, _, e1⟩ := K.out _ _ HD.out.2
    obtain ⟨e2, f2⟩ := HF.out _ HD.out.1
    have HEE := Lib.hid (HE.out _ HD.out.1)
    have hgW := Nat.lt_of_lt_of_le hgw HD.out.1.size
    clear K HN HD HE HF hbw
    generalize (w.alloc (.cells #[.int .i64 a, .string ⟨d.toArray⟩] 111)).drew = W at *
    have e1' := ((Off.refl (· = b) W).one (k * 3 + 2) (.int .u64 ((cnt : Int) + 1))).cell (p := ⟨g, 1, none⟩) hgW (fun e => hbg e.symm) |>.trans e1
    go_wp2
    go_ret
    exact ⟨rfl, HEE.out⟩
theorem dalloc_size (w : World) (o : Obj) : (w.drew.alloc o).heap.size = w.heap.size + 1 := by
  show (w.heap.push o).size = _
  simp
theorem OwnK.last {w : World} {v : Value} {l : List Tal} {a : Int} {d : List UInt8} {k : Nat} (h : OwnK w v (l ++ [(a, d, k)])) (ln : Nat) (hl : l.length = ln) :
    ∃ b c, v = .slice (some ⟨b, 0, none⟩) (ln + 1) c ∧ ln + 1 ≤ c ∧ c ≤ maxLen ∧ b < w.heap.size ∧ w.frozen? ⟨b, ln * 3 + 2, none⟩ = false ∧ w.cell? ⟨b, ln * 3 + 2, none⟩ = some (.int .u64 (k : Int)) := by
  subst hl
  have e : List.length (α := Tal) (l ++ [(a, d, k)]) = l.length + 1 := by simp
  obtain ⟨P, c, h1, h2, h3, h4⟩ := h.shape
  rw [e] at h1 h2
  obtain ⟨b, rfl, _, hb, hf, hc⟩ := h4 (by omega)
  obtain ⟨_, _, t⟩ := hc l.length (by omega)
  exact ⟨b, c, h1, h2, h3, hb, hf _, by simpa using t⟩
/-- a row more, whose count is stored -/
theorem TlI.pushed {g m : Nat} {v : Value} {l : List Tal} {W : World} (h : TlI g m v l W) {a : Int} {d : List UInt8} (hno : alPl l a d = none) {W2 : World} (O2 : Off (· = m) W W2) (hM : MapK W2 m (l.length + 1) (fun c u => if c = a ∧ u = d then some l.length else alPl l c u))
    {W3 : World} {b n c : Nat} (O3 : Off (fun k => v.ownBlock = some k) W2 W3) (hown : OwnK W3 (.slice (some ⟨b, 0, none⟩) n c) (l ++ [(a, d, 0)])) (hw : v.ownBlock = some b ∨ W.heap.size ≤ b) :
    TlI g m (.slice (some ⟨b, 0, none⟩) n c) (l ++ [(a, d, 1)]) ((W3.setCell ⟨g, 1, none⟩ (.slice (some ⟨b, 0, none⟩) n c)).setCell ⟨b, l.length * 3 + 2, none⟩ (.int .u64 1)) ∧
    Off (fun k => k = g ∨ k = m ∨ v.ownBlock = some k) W ((W3.setCell ⟨g, 1, none⟩ (.slice (some ⟨b, 0, none⟩) n c)).setCell ⟨b, l.length * 3 + 2, none⟩ (.int .u64 1)) := by
  have hg := lt_of_block h.row
  have hmw := h.map.lt
  have hbg : b ≠ g := fun e => hw.elim (fun k => (h.far b k).1 e) (fun k => by omega)
  have hbm : b ≠ m := fun e => hw.elim (fun k => (h.far b k).2 e) (fun k => by omega)
  have r2 := (O2.block g hg (fun e => h.ne e.symm)).trans h.row
  have r3 := (O3.block g (Nat.lt_of_lt_of_le hg O2.size) (fun e => (h.far g e).1 rfl)).trans r2
  have r4 := heap_setCell_same W3 g 1 _ _ (.slice (some ⟨b, 0, none⟩) n c) r3
  have O4 := (Off.refl (· = g) W3).one 1 (.slice (some ⟨b, 0, none⟩) n c)
  have O5 := (Off.refl (· = b) (W3.setCell ⟨g, 1, none⟩ (.slice (some ⟨b, 0, none⟩) n c))).one (l.length * 3 + 2) (.int .u64 1)
  have hlen : (l ++ [(a, d, 0)]).length = l.length + 1 := by simp
  have hnn : (l ++ [(a, d, 0)]).length = n := by
    obtain ⟨P, c', e, _⟩ := hown.shape
    injection e with _ e2 _
    exact e2.symm
  have h5 := (hown.off O4 (fun k hk e => by injection hk with hk; subst hk; exact hbg e)).counted hnn (j := l.length) (by omega) 1
  have eL : (l ++ [(a, d, 0)]).set l.length ((l ++ [(a, d, 0)])[l.length].1, (l ++ [(a, d, 0)])[l.length].2.1, 1) = l ++ [(a, d, 1)] := by simp
  rw [eL] at h5
  refine ⟨⟨?_, h.ne, ?_, h5, fun k hk => ?_⟩, ?_⟩
  · rw [O5.block g (Nat.lt_of_lt_of_le (Nat.lt_of_lt_of_le (Nat.lt_of_lt_of_le hg O2.size) O3.size) O4.size) (fun e => hbg e.symm)]
    simpa using r4
  · have e : List.length (α := Tal) (l ++ [(a, d, 1)]) = l.length + 1 := by simp
    rw [e, ← alPl_snoc l (a, d, 1) hno]
    exact ((hM.off O3 (fun e => (h.far m e).2 rfl)).off O4 h.ne).off O5 (fun e => hbm e.symm)
  · injection hk with hk
    subst hk
    exact ⟨hbg, hbm⟩
  · refine (((O2.more (fun k hk => .inr (.inl hk))).trans (O3.more (fun k hk => .inr (.inr hk)))).trans (O4.more (fun k hk => .inl hk))).thru O5 (fun i hi e => ?_)
    rcases hw with k | k
    · subst e; exact .inr (.inr k)
    · have e' : i = b := e
      omega
set_option maxHeartbeats 8000000 in
theorem tladd_new (g : Nat) (l : List Tal) (a : Int) (A : Option Addr) (n c : Nat) (d : List UInt8) (w : World) (X : Nat → Prop) (hT : TlP g l w X) (ha : I64 a) (hB : Bys w A n c d) (hk : ¬ alAt l a d < l.length) (hl : l.length < 1000) :
    Calls Try.prog 46 #[.pointer (some ⟨g, 0, none⟩), .int .i64 a, .slice A n c] w fun e w' => e = .returned (.int .u64 1) ∧ ∃ X', TlP g (l ++ [(a, d, 1)]) w' X' ∧ Turns X X' w w' := by
  obtain ⟨m, v, hI, hX, hXm, hXv, hlt⟩ := hT
  have H1 := Lib.hid (tlmade_any g m v l w hI)
  obtain ⟨P, cc, rfl, k1, k2, k3⟩ := hI.own.shape
  obtain ⟨c0, c1, _, f1, hgw⟩ := hI.cells
  have hd : d.length ≤ maxLen := by have := hB.len; have := hB.le; have := hB.cap; unfold maxLen; omega
  have kc := conv_bys hB
  have hU : ∀ o : Obj, Below w.heap.size w (w.alloc o) := fun o => (Below.refl _ _).alloc (Nat.le_refl _) o
  have hno := alPl_none hk
  have K : Hid (∀ (W : World) (o : Obj), Below (w.alloc o).heap.size (w.alloc o) W → W.cell? ⟨g, 0, none⟩ = some (.map (some m)) ∧ (Instr.lookup 92 (.map (some m)) (.agg #[.int .i64 a, .string ⟨d.toArray⟩]) true).run Try.prog W = .ok (.tuple #[.int .i64 0, .bool false]) W ∧ W.cell? ⟨g, 1, none⟩ = some (.slice P l.length cc)) := fun W o T =>
    have U := nxt (hU o) T
    ⟨(U.cell (p := ⟨g, 0, none⟩) hgw).trans c0, by have h := (hI.below U).map.look a d ha hd; rw [hno] at h; exact h, (U.cell (p := ⟨g, 1, none⟩) hgw).trans c1⟩
  have HN := Lib.hid (two_new w (.int .i64 a) (.string ⟨d.toArray⟩) 111)
  have HI := Lib.hid (fun W (U : Below w.heap.size w W) => hI.below U)
  have HD : Hid (Below w.heap.size w (w.alloc (.cells #[.int .i64 a, .string ⟨d.toArray⟩] 111)).drew ∧ Below (w.alloc (.cells #[.int .i64 a, .string ⟨d.toArray⟩] 111)).heap.size (w.alloc (.cells #[.int .i64 a, .string ⟨d.toArray⟩] 111)) (w.alloc (.cells #[.int .i64 a, .string ⟨d.toArray⟩] 111)).drew) := ⟨(hU _).drew, (Below.refl _ _).drew⟩
  have hsz : w.heap.size < (w.alloc (.cells #[.int .i64 a, .string ⟨d.toArray⟩] 111)).drew.heap.size := by simp [World.drew]
  have HL := Lib.hid hlt
  have HXV := Lib.hid hXv
  obtain ⟨ln, hln⟩ : ∃ ln, l.length = ln := ⟨_, rfl⟩
  have HLN := Lib.hid hln
  rw [hln] at K k1 hl
  clear hI hB k3 hln hXv hlt c0 c1 f1 hU
  go_enter Try.func46, Try.ntmps46
  go_wp2_with (fail)
  refine H1.out.mono ?_
  rintro e w1 ⟨rfl, rfl⟩
  go_wp2_with (fail)
  go_region_held3 (fun w' => w'.cell? ⟨w.heap.size, 0, none⟩ = some (.int .i64 a) ∧ w'.cell? ⟨w.heap.size, 1, none⟩ = some (.string ⟨d.toArray⟩) ∧ w'.cell? ⟨g, 0, none⟩ = some (.map (some m)) ∧ (Instr.lookup 92 (.map (some m)) (.agg #[.int .i64 a, .string ⟨d.toArray⟩]) true).run Try.prog w' = .ok (.tuple #[.int .i64 0, .bool false]) w' ∧ w'.cell? ⟨g, 1, none⟩ = some (.slice P ln cc)) (first | exact ⟨HN.out.1, HN.out.2, K.out _ _ (Below.refl _ _)⟩ | exact ⟨HN.out.1, HN.out.2, K.out _ _ (Below.drew (Below.refl _ _))⟩) (fail)
  obtain ⟨e0, _, e1⟩ := K.out _ _ HD.out.2
  have q0 : (w.alloc (.cells #[.int .i64 a, .string ⟨d.toArray⟩] 111)).drew.cell? ⟨w.heap.size, 0, none⟩ = _ := HN.out.1
  have q1 : (w.alloc (.cells #[.int .i64 a, .string ⟨d.toArray⟩] 111)).drew.cell? ⟨w.heap.size, 1, none⟩ = _ := HN.out.2
  have UW := HD.out.1
  have HJ0 := Lib.hid (HI.out _ UW)
  have HJ := Lib.hid (HLN.out ▸ HJ0.out.map : MapK _ m ln (alPl l))
  have hgW := Nat.lt_of_lt_of_le hgw UW.size
  clear K HN HD kc
  generalize (w.alloc (.cells #[.int .i64 a, .string ⟨d.toArray⟩] 111)).drew = W at *
  have HJ1 : Hid (TlI g m (.slice P ln cc) l W) := by show TlI _ _ _ _ _; rw [← HLN.out]; exact HJ0.out
  have hMd : MapK W.drew m ln (alPl l) := HJ.out.below (Below.refl _ _).drew
  obtain ⟨w2, hrun, hM2, hg2⟩ := hMd.put (by unfold maxLen; omega) a d ha hd ln (by omega)
  unfold kv at hrun
  have O2 : Off (· = m) W w2 := ((Off.refl (· = m) W).drew).grown hg2 (fun k hk => .inl (by injection hk with hk; exact hk.symm))
  have HO2 := Lib.hid O2
  have HM2 := Lib.hid hM2
  have HE : Hid (∀ w2 w3 v3 (o : Obj), Off (· = m) W w2 → MapK w2 m (ln + 1) (fun c u => if c = a ∧ u = d then some ln else alPl l c u) → OwnK w3 v3 (l ++ [(a, d, 0)]) → (w2.drew.alloc o).grownBy w3 (Value.slice P ln cc).ownBlock → (v3.ownBlock = (Value.slice P ln cc).ownBlock ∨ v3.ownBlock = some (w2.drew.alloc o).heap.size) →
      ∀ b n c, v3 = .slice (some ⟨b, 0, none⟩) n c → b ≠ g ∧ ∃ X', TlP g (l ++ [(a, d, 1)]) ((w3.setCell ⟨g, 1, none⟩ (.slice (some ⟨b, 0, none⟩) n c)).setCell ⟨b, ln * 3 + 2, none⟩ (.int .u64 1)) X' ∧ Turns X X' w ((w3.setCell ⟨g, 1, none⟩ (.slice (some ⟨b, 0, none⟩) n c)).setCell ⟨b, ln * 3 + 2, none⟩ (.int .u64 1))) := fun w2 w3 v3 o O2 hM hown hgrow hwhere b n c hv => by
    subst hv
    have O3 : Off (fun k => (Value.slice P ln cc).ownBlock = some k) w2 w3 := ((Off.refl _ w2).drew.alloc o).grown hgrow (fun k hk => .inl hk)
    have hw : (Value.slice P ln cc).ownBlock = some b ∨ W.heap.size ≤ b := by
      rcases hwhere with h | h
      · exact .inl h.symm
      · have h' : b = (w2.drew.alloc o).heap.size := by injection h
        have := O2.size
        rw [dalloc_size] at h'
        exact .inr (by omega)
    obtain ⟨h1, h2⟩ := HJ1.out.pushed hno O2 (by rw [HLN.out]; exact hM) O3 hown hw
    rw [HLN.out] at h1 h2
    refine ⟨(h1.far b rfl).1, TlP.turned hX HL.out h1 ((Off.of_below UW).trans (h2.more (fun k hk => ?_))) (.inl hXm) (fun k hk => ?_)⟩
    · rcases hk with rfl | rfl | hk
      · exact hX
      · exact hXm
      · exact HXV.out k (by rw [HLN.out]; exact hk)
    · have hk' : b = k := by injection hk
      subst hk'
      rcases hw with h | h
      · exact .inl (HXV.out b (by rw [HLN.out]; exact h))
      · exact .inr (Nat.le_trans UW.size h)
  have hgm : g ≠ m := fun e => HJ0.out.ne e.symm
  have hqm : w.heap.size ≠ m := by have := HL.out m hXm; omega
  have q0' := (O2.cell (p := ⟨w.heap.size, 0, none⟩) hsz hqm).trans q0
  have q1' := (O2.cell (p := ⟨w.heap.size, 1, none⟩) hsz hqm).trans q1
  have e1' := (O2.cell (p := ⟨g, 1, none⟩) hgW hgm).trans e1
  have f1' := (frozen_of_block (O2.block g hgW hgm) 1).trans (HJ0.out.cells.2.2.2.1)
  have HOW := Lib.hid (HJ1.out.own.off O2 (fun k hk => (HJ1.out.far k hk).2))
  have hgw2 := Nat.lt_of_lt_of_le hgW O2.size
  clear hMd hM2 hg2 O2
  go_wp2_with (fail)
  go_region
  clear hrun q0 q1 e0 e1
  go_wp2_with (fail)
  go_region_law
    (first
      | ((refine step_k _ rfl (.tmp 43) (.tmp 46) rfl (.slice P ln cc) l rfl ?_ w2.heap.size a d 0 rfl ?_ ?_ ?_); (exact HOW.out.below ((Below.refl _ _).drew.alloc (Nat.le_refl _) _)); (exact heap_alloc_new w2.drew _); (rw [HLN.out]; omega); (intro v3 w3 hown3 hgrow3 hwhere3); (have HEE := Lib.hid (HE.out w2 w3 v3 _ HO2.out HM2.out hown3 hgrow3 hwhere3)); obtain ⟨b3, c3, rfl, hc3, hm3, hb3, f3, t3⟩ := hown3.last ln HLN.out; have C3 := grown_cell (p := ⟨g, 1, none⟩) hgrow3 (Nat.lt_of_lt_of_le hgw2 (by first | exact Nat.le_of_lt (Nat.lt_of_lt_of_eq (Nat.lt_succ_self _) (dalloc_size w2 _).symm) | (rw [dalloc_size]; omega))) (fun e => (HJ1.out.far g e).1 rfl) (show (w2.drew.alloc _).cell? ⟨g, 1, none⟩ = some (.slice P ln cc) from ((Below.refl w2.heap.size w2).drew.alloc (Nat.le_refl _) _).cell (p := ⟨g, 1, none⟩) hgw2 |>.trans e1'); have F3 := (frozen_of_block (hgrow3.block g (Nat.lt_of_lt_of_le hgw2 (by first | exact Nat.le_of_lt (Nat.lt_of_lt_of_eq (Nat.lt_succ_self _) (dalloc_size w2 _).symm) | (rw [dalloc_size]; omega))) (fun e => (HJ1.out.far g e.symm).1 rfl)) 1).trans ((frozen_of_block (((Below.refl w2.heap.size w2).drew.alloc (Nat.le_refl _) _).block g hgw2) 1).trans f1')))
  all_goals
    obtain ⟨hbg, hEE⟩ := HEE.out b3 (ln + 1) c3 rfl
    have HEF := Lib.hid hEE
    have hbg' : g ≠ b3 := fun e => hbg e.symm
    have d1 : (ln : Int) < ((ln + 1 : Nat) : Int) := by omega
    clear hEE hown3 hgrow3 hwhere3 HO2 HM2 HE hb3
    go_wp2
    go_ret
    exact ⟨rfl, HEF.out⟩
end Go.Proofs.Ytpdnpfohcnpenaa
