/- Contracts of the landed flight (at d887268): put and cut of a direction. -/
import Derived.Test.YtgppoapdpgblmaaFlkK1
namespace Go.Proofs.Ytgppoapdpgblmaa
open Go.RowKit
set_option maxRecDepth 20000

theorem ungrown {w w' : World} {row : Option Nat} (h : w.drew.grownBy w' row) : w.grownBy w' row := ⟨h.os, h.tape, h.output, h.size, h.block⟩
section
variable {s : Fs} {v0 v1 v o : Value} {d : Int} {q g sent : Nat} {l : List Frm} {w : World} {X : Nat → Prop}
/-- a frame appended, the direction's number stored ahead -/
theorem KPv.pushed (h : KPv g s v0 v1 w X) (D : Dir s v0 v1 d q v o l sent) {W1 w2 w3 : World} {ob : Obj} {v3 : Value} {f : Frm} {S : Nat} (hW1 : W1 = w.setCell ⟨g, q, none⟩ (.int .i64 (S : Int))) (T2 : Below W1.heap.size W1 w2) (own3 : OwnG w3 (Zn w X g o) v3 (l ++ [f]))
    (grow3 : (w2.alloc ob).grownBy w3 v.ownBlock) (where3 : v3.ownBlock = v.ownBlock ∨ ∀ k, v3.ownBlock = some k → (w2.alloc ob).heap.size ≤ k) (hok : FsOk (fsSet s d (l ++ [f]) S)) :
    ∃ v0' v1' X', KPv g (fsSet s d (l ++ [f]) S) v0' v1' (w3.setCell ⟨g, q + 1, none⟩ v3) X' ∧ Dir (fsSet s d (l ++ [f]) S) v0' v1' d q v3 o (l ++ [f]) S ∧ Turns X X' w (w3.setCell ⟨g, q + 1, none⟩ v3) := by
  have hR := (h.dir D).2.2.1
  have hgw := h.2.1 g h.1
  have O1 : Off (fun k => k = g ∨ v.ownBlock = some k) w W1 := by rw [hW1]; exact (Off.refl _ w).setCell (p := ⟨g, q, none⟩) (.inl (.inl rfl)) _
  have O3 : Off (fun k => k = g ∨ v.ownBlock = some k) w w3 := ((O1.next T2).alloc ob).grown grow3 (fun k hk => .inl (.inr hk))
  have hs1 := O1.size
  have hs2 := T2.size
  have hsa : (w2.alloc ob).heap.size = w2.heap.size + 1 := by simp
  have hne : ∀ k, v.ownBlock = some k → k ≠ g := fun k hk => (hR.2 k hk).2.1
  have a1 : W1.heap[g]? = some (.cells ((kcells s v0 v1).setIfInBounds q (.int .i64 (S : Int))) 62 (0, 0)) := by rw [hW1]; exact heap_setCell_same w g q _ _ _ h.2.2.2.1
  have a2 : (w2.alloc ob).heap[g]? = _ := hp_old ((T2.block g (by omega)).trans a1) ob
  have a3 := (grow3.block g (by omega) (fun e => hne g e.symm rfl)).trans a2
  have a4 := heap_setCell_same w3 g (q + 1) _ _ v3 a3
  have hwh : v3.ownBlock = v.ownBlock ∨ ∀ k, v3.ownBlock = some k → w.heap.size ≤ k := where3.imp id (fun e k hk => by have := e k hk; omega)
  have hn3 : ∀ k, v3.ownBlock = some k → k ≠ g := fun k hk => by
    rcases hwh with e | e
    · rw [e] at hk; exact hne k hk
    · have := e k hk; omega
  exact h.turn D (O3.setCell (p := ⟨g, q + 1, none⟩) (.inl (.inl rfl)) v3) a4 (own3.off ((Off.refl (· = g) w3).setCell (p := ⟨g, q + 1, none⟩) (.inl rfl) v3) (fun k _ hk => .inr (.inl hk)) hn3) hwh hok
theorem Dir.same (D : Dir s v0 v1 d q v o l sent) : (kcells s v0 v1).setIfInBounds q (.int .i64 (sent : Int)) = kcells s v0 v1 := by
  rcases D with ⟨rfl, rfl, rfl, rfl, rfl, rfl⟩ | ⟨rfl, rfl, rfl, rfl, rfl, rfl⟩ <;> simp [kcells]
/-- frames cut out, the row's block turned ahead -/
theorem KPv.cutTo {b of n c : Nat} (h : KPv g s v0 v1 w X) (D : Dir s v0 v1 d q (.slice (some ⟨b, of, none⟩) n c) o l sent) {W1 w3 : World} {v3 : Value} {l' : List Frm} (O1 : Off (· = b) w W1) (G : W1.grownBy w3 none) (own3 : OwnG w3 (Zn w X g o) v3 l')
    (where3 : v3.ownBlock = some b ∨ ∀ k, v3.ownBlock = some k → W1.heap.size ≤ k) (hok : FsOk (fsSet s d l' sent)) :
    ∃ v0' v1' X', KPv g (fsSet s d l' sent) v0' v1' (w3.setCell ⟨g, q + 1, none⟩ v3) X' ∧ Dir (fsSet s d l' sent) v0' v1' d q v3 o l' sent ∧ Turns X X' w (w3.setCell ⟨g, q + 1, none⟩ v3) := by
  have hR := (h.dir D).2.2.1
  have hgw := h.2.1 g h.1
  have hbg : b ≠ g := (hR.2 b rfl).2.1
  have O3 : Off (fun k => k = g ∨ (Value.slice (some ⟨b, of, none⟩) n c).ownBlock = some k) w w3 := (O1.more (fun k hk => .inr (by subst hk; rfl))).grown G (fun k hk => by cases hk)
  have hs1 := O1.size
  have a1 := (O1.block g hgw (fun e => hbg e.symm)).trans h.2.2.2.1
  have a3 := (G.block g (by omega) (by simp)).trans a1
  have a4 := heap_setCell_same w3 g (q + 1) _ _ v3 a3
  rw [← D.same] at a4
  have hwh : v3.ownBlock = (Value.slice (some ⟨b, of, none⟩) n c).ownBlock ∨ ∀ k, v3.ownBlock = some k → w.heap.size ≤ k := where3.imp id (fun e k hk => by have := e k hk; omega)
  have hn3 : ∀ k, v3.ownBlock = some k → k ≠ g := fun k hk => by
    rcases hwh with e | e
    · rw [e] at hk; injection hk with hk; subst hk; exact hbg
    · have := e k hk; omega
  exact h.turn D (O3.setCell (p := ⟨g, q + 1, none⟩) (.inl (.inl rfl)) v3) a4 (own3.off ((Off.refl (· = g) w3).setCell (p := ⟨g, q + 1, none⟩) (.inl rfl) v3) (fun k _ hk => .inr (.inl hk)) hn3) hwh hok
theorem KPv.zn_lt (h : KPv g s v0 v1 w X) (D : Dir s v0 v1 d q v o l sent) : ∀ k, Zn w X g o k → k < w.heap.size := fun k hz => by
  rcases hz with hz | hz | hz
  · exact Nat.lt_of_not_le (fun h => hz (.inr h))
  · exact hz ▸ h.2.1 g h.1
  · rcases D with ⟨rfl, rfl, rfl, rfl, rfl, rfl⟩ | ⟨rfl, rfl, rfl, rfl, rfl, rfl⟩
    · exact h.2.1 k (h.2.2.2.2.2.2 k hz).1
    · exact h.2.1 k (h.2.2.2.2.1.2 k hz).1
end
set_option maxHeartbeats 8000000 in
theorem kput_any (g : Nat) (s : Fs) (v0 v1 : Value) (d : Int) (q : Nat) (v o : Value) (l : List Frm) (sent : Nat) (A : Option Addr) (n c : Nat) (b : List UInt8) (w : World) (X : Nat → Prop) (h : KPv g s v0 v1 w X) (D : Dir s v0 v1 d q v o l sent) (hB : Bys w A n c b) (hA : Av X n A) (hn : n ≤ 512)
    (hok : FsOk (fsSet s d (l ++ [(sent + 1, b, b)]) (sent + 1))) :
    Calls Try.prog 26 #[.pointer (some ⟨g, q, none⟩), .slice A n c] w fun e w' => e = .returned (.tuple #[]) ∧ ∃ v0' v1' X' v', KPv g (fsSet s d (l ++ [(sent + 1, b, b)]) (sent + 1)) v0' v1' w' X' ∧ Dir (fsSet s d (l ++ [(sent + 1, b, b)]) (sent + 1)) v0' v1' d q v' o (l ++ [(sent + 1, b, b)]) (sent + 1) ∧ Turns X X' w w' := by
  have hbl := hB.len
  have hq := D.q7
  obtain ⟨c0, c1, hr, hl, hs, hmem⟩ := h.dir D
  obtain ⟨-, -, -, hfz, hgw⟩ := h.life
  obtain ⟨S, hS⟩ : ∃ S, sent + 1 = S := ⟨_, rfl⟩
  have eS : (sent : Int) + 1 = (S : Int) := by omega
  have hSb : S ≤ 1000001 := by omega
  rw [hS] at hok ⊢
  obtain ⟨P, pc, hv, -, -, -⟩ := hr.1.shape
  obtain ⟨m, hm⟩ : ∃ m, l.length = m := ⟨_, rfl⟩
  rw [hm] at hv
  have O1 : Off (· = g) w (w.setCell ⟨g, q, none⟩ (.int .i64 (S : Int))) := (Off.refl (· = g) w).setCell (p := ⟨g, q, none⟩) (.inl rfl) _
  have hB1 : Hid (Bys (w.setCell ⟨g, q, none⟩ (.int .i64 (S : Int))) A n c b) := hB.off (hA.imp (fun k hk => by subst hk; exact h.1)) O1
  have hlb := O1.size
  have k0 : (w.setCell ⟨g, q, none⟩ (.int .i64 (S : Int))).cell? ⟨g, q, none⟩ = some (.int .i64 (S : Int)) := World.cell?_setCell_same _ _ _ c0
  have k1 : (w.setCell ⟨g, q, none⟩ (.int .i64 (S : Int))).cell? ⟨g, q + 1, none⟩ = some v := (World.cell?_setCell_other _ _ _ _ (by simp)).trans c1
  have kf : (w.setCell ⟨g, q, none⟩ (.int .i64 (S : Int))).frozen? ⟨g, q + 1, none⟩ = false := by rw [World.frozen?_setCell]; exact hfz _
  have kz : OwnG (w.setCell ⟨g, q, none⟩ (.int .i64 (S : Int))) (Zn w X g o) v l := hr.zn.off O1 (fun k _ hk => .inr (.inl hk)) (fun k hk => (hr.2 k hk).2.1)
  have hPU := Lib.hid (fun w2 w3 v3 ob (T2 : Below (w.setCell ⟨g, q, none⟩ (.int .i64 (S : Int))).heap.size _ w2) own3 grow3 where3 => h.pushed D (w2 := w2) (w3 := w3) (v3 := v3) (ob := ob) (f := (S, b, b)) (S := S) rfl T2 own3 grow3 where3 hok)
  have hzl : Hid (∀ k, Zn w X g o k → k < (w.setCell ⟨g, q, none⟩ (.int .i64 (S : Int))).heap.size) := fun k hk => Nat.lt_of_lt_of_le (h.zn_lt D k hk) hlb
  have hob := Lib.hid (fun k (hk : v.ownBlock = some k) => And.intro (Nat.lt_of_lt_of_le (h.2.1 k (hr.2 k hk).1) hlb) (hr.2 k hk).2.1)
  have f0 := hfz q
  have h3l : Hid ((l ++ [(S, b, b)]).length = m + 1) := by show _ = _; rw [List.length_append, hm]; rfl
  subst hv
  clear h D hr hfz hmem hB hok hS hA hm
  go_enter Try.func26, Try.ntmps26
  go_upto_region 1 with fail
  have hgw1 := Nat.lt_of_lt_of_le hgw hlb
  generalize w.setCell ⟨g, q, none⟩ (.int .i64 (S : Int)) = W1 at *
  have HTW := Lib.hid (fun W (U : Below W1.heap.size W1 W) => And.intro ((U.cell (p := ⟨g, q, none⟩) hgw1).trans k0) (And.intro ((U.cell (p := ⟨g, q + 1, none⟩) hgw1).trans k1) ((frozen_of_block (U.block g hgw1) (q + 1)).trans kf)))
  have HKZ := Lib.hid kz
  clear c0 c1 f0 k0 k1 kf O1 kz hlb
  have HC := Lib.hid (kcopied_any A n c b W1 hB1.out (by omega))
  go_wp2_with (fail)
  refine HC.out.mono ?_
  rintro e w2 ⟨v2, rfl, hw2, T2⟩
  rw [hbl] at hw2
  obtain ⟨A2, c2, rfl⟩ := own_shape hw2
  have x1 : Hid (Tx w2 (· < W1.heap.size) b (.slice A2 n c2)) := Tx.fre (Fre.of_own hw2)
  obtain ⟨e0, e1, ef⟩ := HTW.out w2 T2
  obtain ⟨e3, e4, e5⟩ := HTW.out _ (T2.alloc T2.size (.cells #[.int .i64 (S : Int), .slice A2 n c2, .slice A2 n c2] 40))
  go_wp2_with (fail)
  go_region_law
    (first
      | ((refine step_g _ rfl (.tmp 18) (.tmp 26) rfl (Zn w X g o) (.slice P m pc) l rfl ?_ (fun k => k < W1.heap.size) w2.heap.size (S, b, b) (.slice A2 n c2) (.slice A2 n c2) rfl ?_ ?_ ?_ ?_ ?_ ?_ ?_); (exact HKZ.out.below (by first | exact T2.alloc T2.size _ | exact (T2.alloc T2.size _).drew | exact (T2.alloc T2.size _).drew.drew)); (exact heap_alloc_new w2 _); (exact (x1.out).below (by first | exact (Below.refl _ w2).alloc (Nat.le_refl _) _ | exact ((Below.refl _ w2).alloc (Nat.le_refl _) _).drew | exact ((Below.refl _ w2).alloc (Nat.le_refl _) _).drew.drew)); (exact (x1.out).below (by first | exact (Below.refl _ w2).alloc (Nat.le_refl _) _ | exact ((Below.refl _ w2).alloc (Nat.le_refl _) _).drew | exact ((Below.refl _ w2).alloc (Nat.le_refl _) _).drew.drew)); (omega); (exact fun k _ hz => hzl.out k hz); (exact fun k hk => (hob.out k hk).1); (intro v3 w3 own3 grow3' where3; have grow3 : (w2.alloc (.cells #[.int .i64 (S : Int), .slice A2 n c2, .slice A2 n c2] 40)).grownBy w3 (Value.slice P m pc).ownBlock := (by first | exact grow3' | exact ungrown grow3' | exact ungrown (ungrown grow3')); clear grow3'); (have HEE := Lib.hid (hPU.out w2 w3 v3 _ T2 own3 grow3 where3)); (obtain ⟨P3, c3, hv3, -⟩ := own3.shape; rw [h3l.out] at hv3; subst hv3); (have f5 := (frozen_of_block (grow3.block g (by have := T2.size; simp; omega) (fun e => (hob.out g e.symm).2 rfl)) (q + 1)).trans (HTW.out _ (T2.alloc T2.size _)).2.2); (have C5 := grown_cell (p := ⟨g, q + 1, none⟩) grow3 (by have := T2.size; simp; omega) (fun e => (hob.out g e).2 rfl) (HTW.out _ (T2.alloc T2.size _)).2.1)))
  all_goals
    go_wp2
    go_end0
    obtain ⟨a1, a2, a3, r1, r2, r3⟩ := HEE.out
    exact ⟨rfl, a1, a2, a3, _, r1, r2, r3⟩
theorem slice_lo_f (b of n c k : Nat) (hk : k ≤ n) (w : World) : (Instr.sliceAt 57 (.slice (some ⟨b, of, none⟩) n c) (some (.int .i64 k)) none none).run Try.prog w = .ok (.slice (some ⟨b, if c = k then of else of + k * 3, none⟩) (n - k) (c - k)) w := by
  obtain ⟨i0, hi, hz0, hz1, hz2⟩ := info_parts Try.infoF
  have ht : Try.prog.underlying 57 = some (.slice (Try.prog.elem 57)) := by kernel_rfl
  have he : Try.prog.elem 57 = 40 := by kernel_rfl
  rw [run_sliceAt_slice _ _ _ _ _ _ ht, run_slice_l _ _ _ _ _ ht .i64 k (by omega) (by omega), he]
  simp [Go.sizeOf, typeInfo, hi, hz1, sliced]
  split <;> simp [Addr.add_lit]
theorem erase_zero {l : List Frm} : l.tail = l.eraseIdx 0 := by cases l <;> rfl
theorem fsOk_cut {s : Fs} {v0 v1 v o : Value} {d : Int} {q sent : Nat} {l l' : List Frm} (D : Dir s v0 v1 d q v o l sent) (h : FsOk s) (hl : l'.length ≤ 4097) (hm : ∀ f ∈ l', f ∈ l) : FsOk (fsSet s d l' sent) := by
  obtain ⟨o1, o2, o3, o4⟩ := h
  rcases D with ⟨rfl, rfl, rfl, rfl, rfl, rfl⟩ | ⟨rfl, rfl, rfl, rfl, rfl, rfl⟩
  · exact ⟨o1, o2, ⟨hl, o3.2.1, fun f hf => o3.2.2 f (hm f hf)⟩, o4⟩
  · exact ⟨o1, o2, o3, ⟨hl, o4.2.1, fun f hf => o4.2.2 f (hm f hf)⟩⟩
set_option maxHeartbeats 8000000 in
theorem kcut_any (g : Nat) (s : Fs) (v0 v1 : Value) (d : Int) (q : Nat) (v o : Value) (l : List Frm) (sent i : Nat) (w : World) (X : Nat → Prop) (h : KPv g s v0 v1 w X) (D : Dir s v0 v1 d q v o l sent) (hi : i < l.length) :
    Calls Try.prog 27 #[.pointer (some ⟨g, q, none⟩), .int .i64 (i : Int)] w fun e w' => e = .returned (.tuple #[]) ∧ ∃ v0' v1' X' v', KPv g (fsSet s d (l.eraseIdx i) sent) v0' v1' w' X' ∧ Dir (fsSet s d (l.eraseIdx i) sent) v0' v1' d q v' o (l.eraseIdx i) sent ∧ Turns X X' w w' := by
  obtain ⟨c0, c1, hr, hl, hs, hmem⟩ := h.dir D
  obtain ⟨-, -, -, hfz, hgw⟩ := h.life
  have hok := fsOk_cut (l' := l.eraseIdx i) D h.2.2.1 (by rw [List.length_eraseIdx]; split <;> omega) (fun f hf => List.mem_of_mem_eraseIdx hf)
  obtain ⟨P, pc, rfl, hpc, hpm, hrow⟩ := hr.1.shape
  obtain ⟨b, of, rfl, -, hb, hbf, hel⟩ := hrow (by omega)
  obtain ⟨u1, u2, q0, q1, q2, -, -⟩ := hel i hi
  have hbg : b ≠ g := (hr.2 b rfl).2.1
  have hst : OwnG (((w.setCell ⟨b, of + i * 3, none⟩ (.int .i64 0)).setCell ⟨b, of + i * 3 + 1, none⟩ (.slice none 0 0)).setCell ⟨b, of + i * 3 + 2, none⟩ (.slice none 0 0)) (Zn w X g o) (.slice (some ⟨b, of, none⟩) l.length pc) (l.set i (0, [], [])) := hr.zn.stored hi (0, [], []) (.slice none 0 0) (.slice none 0 0) (tx_nil _ _) (tx_nil _ _)
  obtain ⟨m, hm⟩ : ∃ m, l.length = m := ⟨_, rfl⟩
  have hse : (l.set i (0, [], [])).eraseIdx i = l.eraseIdx i := List.eraseIdx_set_eq
  have hsl : (l.set i (0, [], [])).length = m := by rw [List.length_set, hm]
  have f0 := hbf (of + i * 3)
  have f1 := hbf (of + i * 3 + 1)
  have f2 := hbf (of + i * 3 + 2)
  rw [hm] at c1 hst hi hpc
  have hCT := fun W1 w3 v3 l' (O1 : Off (· = b) w W1) G own3 where3 hok => h.cutTo D (W1 := W1) (w3 := w3) (v3 := v3) (l' := l') O1 G own3 where3 hok
  have O1 : Off (· = b) w (((w.setCell ⟨b, of + i * 3, none⟩ (.int .i64 0)).setCell ⟨b, of + i * 3 + 1, none⟩ (.slice none 0 0)).setCell ⟨b, of + i * 3 + 2, none⟩ (.slice none 0 0)) :=
    (((Off.refl (· = b) w).setCell (p := ⟨b, _, none⟩) (.inl rfl) _).setCell (p := ⟨b, _, none⟩) (.inl rfl) _).setCell (p := ⟨b, _, none⟩) (.inl rfl) _
  have k1 := (O1.cell (p := ⟨g, q + 1, none⟩) hgw (fun e => hbg e.symm)).trans c1
  have kf := (frozen_of_block (O1.block g hgw (fun e => hbg e.symm)) (q + 1)).trans (hfz (q + 1))
  obtain ⟨j, hj⟩ : ∃ j, of + i * 3 = j := ⟨_, rfl⟩
  rw [hj] at q0 q1 q2 f0 f1 f2 hst O1 k1 kf
  have hi' : (i : Int) < (m : Int) := by omega
  obtain ⟨L', hL'⟩ : ∃ L', l.eraseIdx i = L' := ⟨_, rfl⟩
  rw [hL'] at hok hse ⊢
  have HST := Lib.hid hst
  have HO1 := Lib.hid O1
  have HCT := Lib.hid hCT
  have HOK := Lib.hid hok
  have HSE := Lib.hid (And.intro hse hsl)
  have hpm' : pc ≤ 9223372036854775807 := hpm
  clear h D hr hrow hel hmem hfz hst O1 hCT hok hse hsl hbf hpm hL'
  by_cases h0 : i = 0
  · subst h0
    have hj0 : of = j := by simpa using hj
    subst hj0
    clear hj
    by_cases h1 : pc = 1
    · subst h1
      obtain rfl : m = 1 := by omega
      have HX := Lib.hid (HST.out.tail (o' := of) (by omega) (.inr rfl))
      have HR := Lib.hid (HCT.out _ _ _ L' HO1.out ⟨rfl, rfl, rfl, Nat.le_refl _, fun _ _ _ => rfl⟩ (by rw [← HSE.out.1, ← erase_zero]; exact HX.out) (.inl rfl) HOK.out)
      go_enter Try.func27, Try.ntmps27
      go_wp2
      obtain ⟨a1, a2, a3, r1, r2, r3⟩ := HR.out
      exact bodyPost_ret (v := .tuple #[]) (by simp [results, Try.results27, go_sem]) rfl ⟨rfl, a1, a2, a3, _, r1, r2, r3⟩
    · have e1 : (pc = 1) = False := by simp [h1]
      have HX := Lib.hid (HST.out.tail (o' := of + 3) (by omega) (.inl rfl))
      have HR := Lib.hid (HCT.out _ _ _ L' HO1.out ⟨rfl, rfl, rfl, Nat.le_refl _, fun _ _ _ => rfl⟩ (by rw [← HSE.out.1, ← erase_zero]; exact HX.out) (.inl rfl) HOK.out)
      go_enter Try.func27, Try.ntmps27
      go_wp2
      obtain ⟨a1, a2, a3, r1, r2, r3⟩ := HR.out
      exact bodyPost_ret (v := .tuple #[]) (by simp [results, Try.results27, go_sem]) rfl ⟨rfl, a1, a2, a3, _, r1, r2, r3⟩
  · have d0 : ((i : Int) == 0) = false := by simp; omega
    go_enter Try.func27, Try.ntmps27
    go_wp2_with (fail)
    generalize (((w.setCell ⟨b, j, none⟩ (.int .i64 0)).setCell ⟨b, j + 1, none⟩ (.slice none 0 0)).setCell ⟨b, j + 2, none⟩ (.slice none 0 0)) = W1 at *
    have hW1 := HO1.out.size
    have hb1 : (i : Int) ≤ (pc : Int) := by omega
    have hb2 : (i : Int) + 1 ≤ (m : Int) := by omega
    have hb3 : (m : Int) ≤ (pc : Int) := by omega
    have hb4 : (i : Int) ≤ (m : Int) := by omega
    have hb5 : (i : Int) + 1 ≤ (pc : Int) := by omega
    clear q0 q1 q2 f0 f1 f2 c0 c1
    have hb6 : (i : Int) + 1 ≤ 9223372036854775807 := by omega
    have hwr : IntKind.i64.wrap ((i : Int) + 1) = (i : Int) + 1 := IntWalk.i64_in _ (by omega)
    have htn : ((i : Int) + 1).toNat = i + 1 := by omega
    obtain ⟨of', hof, s2⟩ : ∃ of', (⟨b, of', none⟩ = (⟨b, of + (i + 1) * 3, none⟩ : Addr) ∨ m = i + 1) ∧ ∀ W, (Instr.sliceAt 57 (.slice (some ⟨b, of, none⟩) m pc) (some (.int .i64 ((i : Int) + 1))) none none).run Try.prog W = .ok (.slice (some ⟨b, of', none⟩) (m - (i + 1)) (pc - (i + 1))) W :=
      ⟨if pc = i + 1 then of else of + (i + 1) * 3, by
        by_cases h1 : pc = i + 1
        · exact .inr (by omega)
        · rw [if_neg h1]; exact .inl rfl, fun W => slice_lo_f b of m pc (i + 1) (by omega) W⟩
    obtain ⟨m2, hm2⟩ : ∃ m2, m - (i + 1) = m2 := ⟨_, rfl⟩
    obtain ⟨c2, hc2⟩ : ∃ c2, pc - (i + 1) = c2 := ⟨_, rfl⟩
    rw [hm2, hc2] at s2
    have HM2 := Lib.hid hm2.symm
    have hlm : m ≤ 4097 := by omega
    have HBG := Lib.hid hbg
    clear hm2 hc2 htn hm
    go_region_law
      (first
        | ((refine step_cut _ rfl (.tmp 28) (.tmp 35) rfl (Zn w X g o) b of m pc (l.set i (0, [], [])) i rfl ⟨b, of', none⟩ m2 c2 rfl ?_ ?_ ?_ ?_ ?_ ?_); (exact HST.out); (exact hi); (exact hof); (exact HM2.out); (rw [HSE.out.2]; omega); (intro v3 w3 own3 grow3' where3; have grow3 : W1.grownBy w3 none := (by first | exact grow3' | exact ungrown grow3' | exact ungrown (ungrown grow3') | exact ungrown (ungrown (ungrown grow3'))); clear grow3'); (rw [HSE.out.1] at own3); (have HEE := Lib.hid (HCT.out W1 w3 v3 L' HO1.out grow3 own3 where3 HOK.out)); (obtain ⟨P3, c3, hv3, -⟩ := own3.shape; subst hv3); (have f5 := (frozen_of_block (grow3.block g (by omega) (by simp)) (q + 1)).trans kf); (have C5 := grown_cell (p := ⟨g, q + 1, none⟩) grow3 (Nat.lt_of_lt_of_le hgw hW1) (by simp) k1)))
    all_goals
      go_wp2
      go_end0
      obtain ⟨a1, a2, a3, r1, r2, r3⟩ := HEE.out
      exact ⟨rfl, a1, a2, a3, _, r1, r2, r3⟩
end Go.Proofs.Ytgppoapdpgblmaa
