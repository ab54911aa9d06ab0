/- Further words that my proofs share: a slice of bytes cut, turned to a string, loaded whole; a slice of such slices. Nothing of the program's own functions is in here. -/
import Derived.Test.YtoajbocpebfjoaaBase
import Derived.Lib.BytesEntry
import Derived.Lib.Bytealg
import Derived.Lib.Join
import Derived.Laws.Externs
import Derived.Laws.BytesArg
import Derived.Lib.SlBytesConst
namespace Go.Proofs.Ytoajbocpebfjoaa
open Go.RowKit
set_option maxRecDepth 20000

/-- A call's end that makes a []byte and tells whether there is one. -/
def GivesU (w : World) (r : Option (List UInt8)) (e : Ending) (w' : World) : Prop :=
  ∃ A n c, e = .returned (.tuple #[.slice A n c, .bool r.isSome]) ∧ Bys w' A n c (r.getD []) ∧ Below w.heap.size w w'
theorem nxt {a b c : World} (h : Below a.heap.size a b) (k : Below b.heap.size b c) : Below a.heap.size a c := below_step h h.size k
theorem Bys.take {w : World} {A : Option Addr} {n c : Nat} {l : List UInt8} (h : Bys w A n c l) (k : Nat) (hk : k ≤ n) : Bys w A k c (l.take k) := by
  have hl := h.len
  have hle := h.le
  refine ⟨by simp; omega, by omega, h.2.2.1, fun hp => ?_⟩
  obtain ⟨b, o, e, hb, hc⟩ := h.at_ (by omega)
  refine ⟨b, o, e, hb, fun j hj => ?_⟩
  simp at hj
  have := hc j (by omega)
  simpa using this
theorem Bys.drop {w : World} {A : Option Addr} {n c : Nat} {l : List UInt8} (h : Bys w A n c l) (k : Nat) (hk : k ≤ n) : Bys w (if c = k then A else A.map (·.add k)) (n - k) (c - k) (l.drop k) := by
  have hl := h.len
  have hle := h.le
  have hcap := h.cap
  refine ⟨by simp; omega, by omega, by unfold maxLen; omega, fun hp => ?_⟩
  obtain ⟨b, o, rfl, hb, hc⟩ := h.at_ (by omega)
  rw [if_neg (by omega)]
  refine ⟨b, o + k, ?_, hb, fun j hj => ?_⟩
  · unfold Addr.add
    by_cases h0 : k = 0
    · subst h0; rfl
    · simp [h0]
  · simp at hj
    have := hc (k + j) (by omega)
    simpa [Nat.add_assoc] using this

theorem map_add0 (A : Option Addr) : A.map (·.add 0) = A := by
  rcases A with _ | ad
  · rfl
  · simp [Addr.add]
/-- 'b[:k]', 'b[k:]' in the walk's words, with no test left in the address -/
theorem slice_hi (A : Option Addr) (n c k : Nat) (hk : k ≤ c) (w : World) : (Instr.slice 39 (.slice A n c) none (some (.int .i64 k)) none).run Try.prog w = .ok (.slice A k c) w := by
  obtain ⟨i0, hi, hz0, hz1, hz2⟩ := info_parts Try.info5
  have ht : Try.prog.underlying 39 = some (.slice (Try.prog.elem 39)) := by kernel_rfl
  have he : Try.prog.elem 39 = 5 := by kernel_rfl
  rw [run_slice_h _ _ _ _ _ ht .i64 k (by omega) (by omega), he]
  simp [Go.sizeOf, typeInfo, hi, hz1, sliced, map_add0]
theorem slice_lo (A : Option Addr) (n c k : Nat) (hk : k ≤ n) (w : World) : (Instr.slice 39 (.slice A n c) (some (.int .i64 k)) none none).run Try.prog w = .ok (.slice (if c = k then A else A.map (·.add k)) (n - k) (c - k)) w := by
  obtain ⟨i0, hi, hz0, hz1, hz2⟩ := info_parts Try.info5
  have ht : Try.prog.underlying 39 = some (.slice (Try.prog.elem 39)) := by kernel_rfl
  have he : Try.prog.elem 39 = 5 := by kernel_rfl
  rw [run_slice_l _ _ _ _ _ ht .i64 k (by omega) (by omega), he]
  simp [Go.sizeOf, typeInfo, hi, hz1, sliced]
theorem at_slice (x : Value) (lo hi mx : Option Value) (w : World) : (Instr.sliceAt 39 x lo hi mx).run Try.prog w = (Instr.slice 39 x lo hi mx).run Try.prog w :=
  run_sliceAt_slice _ _ x lo hi mx (by kernel_rfl)
theorem cut_lo {w : World} {A : Option Addr} {n c : Nat} {l : List UInt8} (h : Bys w A n c l) (k : Nat) (hk : k ≤ n) :
    ∃ A2, (∀ W, (Instr.sliceAt 39 (.slice A n c) (some (.int .i64 k)) none none).run Try.prog W = .ok (.slice A2 (n - k) (c - k)) W) ∧ Bys w A2 (n - k) (c - k) (l.drop k) :=
  ⟨_, fun W => (at_slice _ _ _ _ W).trans (slice_lo A n c k hk W), h.drop k hk⟩
theorem cut_hi {w : World} {A : Option Addr} {n c : Nat} {l : List UInt8} (h : Bys w A n c l) (k : Nat) (hk : k ≤ n) :
    (∀ W, (Instr.sliceAt 39 (.slice A n c) none (some (.int .i64 k)) none).run Try.prog W = .ok (.slice A k c) W) ∧ Bys w A k c (l.take k) :=
  ⟨fun W => (at_slice _ _ _ _ W).trans (slice_hi A n c k (by have := h.le; omega) W), h.take k hk⟩

def nums (l : List UInt8) : List Int := l.map fun b => (b.toNat : Int)
theorem bytesOf_nums (l : List UInt8) : Lib.bytesOf (nums l) = l := by
  simp only [Lib.bytesOf, nums, List.map_map]
  refine (List.map_congr_left fun b _ => ?_).trans (List.map_id l)
  simp
theorem str_nums (l : List UInt8) : strOfNums (nums l) = ⟨l.toArray⟩ := by
  have := bytesOf_nums l
  unfold Lib.bytesOf at this
  unfold strOfNums
  rw [this]
theorem load_bys {w : World} {A : Option Addr} {n c : Nat} {l : List UInt8} (h : Bys w A n c l) : (Extern.Bytes.bytesOf (.slice A n c)).run Try.prog w = .ok ⟨l.toArray⟩ w := by
  have hl := h.len
  rcases Nat.eq_zero_or_pos n with h0 | h0
  · subst h0
    have : l = [] := List.eq_nil_of_length_eq_zero hl
    subst this
    rcases A with _ | ad
    · rfl
    · rfl
  · obtain ⟨b, o, rfl, _, hc⟩ := h.at_ h0
    have := Lib.run_loadBytesX (P := Try.prog) w (nums l) ⟨b, o, none⟩ .empty (fun j x hj => by
      have hjl : j < l.length := by
        have := (List.getElem?_eq_some_iff.1 hj).1
        simpa [nums] using this
      have e : (⟨b, o, none⟩ : Addr).add j = ⟨b, o + j, none⟩ := by unfold Addr.add; split <;> simp_all
      rw [e, hc j hjl]
      have : (nums l)[j]? = some (l[j].toNat : Int) := by simp [nums, hjl]
      rw [this] at hj
      injection hj with hj
      rw [hj])
    rw [bytesOf_nums] at this
    have hl2 : (nums l).length = n := by simp [nums, hl]
    rw [hl2] at this
    show Sem.run _ (Extern.Bytes.loadBytes ⟨b, o, none⟩ n .empty) w = _
    rw [this]
    congr 1
    apply ByteArray.ext
    show (#[] : Array UInt8) ++ l.toArray = l.toArray
    simp
theorem conv_bys {w : World} {A : Option Addr} {n c : Nat} {l : List UInt8} (h : Bys w A n c l) : (convert 39 9 (.slice A n c)).run Try.prog w = .ok (.string ⟨l.toArray⟩) w := by
  have hl := h.len
  rcases Nat.eq_zero_or_pos n with h0 | h0
  · subst h0
    have : l = [] := List.eq_nil_of_length_eq_zero hl
    subst this
    rw [run_convert_bytes_string w 39 9 5 _ 0 c Try.underlying39 Try.underlying5 Try.underlying9]
    rcases A with _ | ad
    · simp [Conv.bytesToString]; rfl
    · simp [Conv.bytesToString]; rfl
  · obtain ⟨b, o, rfl, _, hc⟩ := h.at_ h0
    rw [run_convert_bytes_arg (P := Try.prog) w 39 5 Try.underlying39 Try.underlying5 b o n c (nums l) (by simp [nums, hl]) (fun i hi => by
      rw [hc i (by omega)]
      simp [nums, List.getElem?_eq_getElem (show i < l.length by omega)]) 9 Try.underlying9, str_nums]

/-- The slice '.slice P n c' reads as the list ls of lists of bytes. -/
def Rws (w : World) (P : Option Addr) (n c : Nat) (ls : List (List UInt8)) : Prop :=
  ls.length = n ∧ n ≤ c ∧ c ≤ maxLen ∧ (0 < n → ∃ b o, ∃ vs : List Value, P = some ⟨b, o, none⟩ ∧ b < w.heap.size ∧ vs.length = ls.length ∧ (∀ j (h : j < vs.length), w.cell? ⟨b, o + j, none⟩ = some vs[j]) ∧
    ∀ j (h : j < vs.length) (h' : j < ls.length), ∃ A d, vs[j] = .slice A ls[j].length d ∧ Bys w A ls[j].length d ls[j])
theorem Rws.below {w w' : World} {P : Option Addr} {n c : Nat} {ls : List (List UInt8)} (h : Rws w P n c ls) (hb : Below w.heap.size w w') : Rws w' P n c ls :=
  ⟨h.1, h.2.1, h.2.2.1, fun hn => by
    obtain ⟨b, o, vs, e, hlt, hl, hc, hv⟩ := h.2.2.2 hn
    refine ⟨b, o, vs, e, by have := hb.size; omega, hl, fun j hj => (hb.cell (by exact hlt)).trans (hc j hj), fun j hj hj' => ?_⟩
    obtain ⟨A, d, h1, h2⟩ := hv j hj hj'
    exact ⟨A, d, h1, h2.below hb⟩⟩
theorem Rws.at_ {w : World} {P : Option Addr} {n c : Nat} {ls : List (List UInt8)} (h : Rws w P n c ls) (k : Nat) (hk : k < n) :
    ∃ b o A d, P = some ⟨b, o, none⟩ ∧ b < w.heap.size ∧ ∃ hk' : k < ls.length, w.cell? ⟨b, o + k, none⟩ = some (.slice A ls[k].length d) ∧ Bys w A ls[k].length d ls[k] := by
  obtain ⟨b, o, vs, e, hlt, hl, hc, hv⟩ := h.2.2.2 (by omega)
  have h1 := h.1
  obtain ⟨A, d, h2, h3⟩ := hv k (by omega) (by omega)
  exact ⟨b, o, A, d, e, hlt, by omega, by rw [hc k (by omega), h2], h3⟩

theorem flat_take (ls : List (List UInt8)) (k : Nat) (h : k < ls.length) : (ls.take (k + 1)).flatten = (ls.take k).flatten ++ ls[k] := by
  rw [List.take_succ_eq_append_getElem h, List.flatten_append, List.flatten_cons, List.flatten_nil, List.append_nil]
theorem flat_len (ls : List (List UInt8)) : ls.flatten.length = Lib.lens ls := by simp [Lib.lens, List.length_flatten]
theorem lens_take_le (ls : List (List UInt8)) (k : Nat) (h : k < ls.length) : (ls.take k).flatten.length + ls[k].length ≤ Lib.lens ls := by
  have e := flat_take ls k h
  have : ((ls.take (k + 1)).flatten).length ≤ ls.flatten.length := by
    conv => rhs; rw [← List.take_append_drop (k + 1) ls]
    rw [List.flatten_append, List.length_append]
    omega
  rw [e, List.length_append, flat_len ls] at this
  exact this

/-- a text's bytes, as '[]byte(constant)' lays them -/
theorem Bys.litf (w : World) (bs : List UInt8) (fr : Nat × Nat) (hb : bs.length ≤ 9223372036854775807) : Bys (w.alloc (.cells (bvs bs).toArray 5 fr)) (some ⟨w.heap.size, 0, none⟩) bs.length bs.length bs := by
  refine ⟨rfl, Nat.le_refl _, by unfold maxLen; omega, fun _ => ⟨w.heap.size, 0, rfl, by simp, fun j hj => ?_⟩⟩
  have hh : (w.alloc (.cells (bvs bs).toArray 5 fr)).heap[w.heap.size]? = some (.cells (bvs bs).toArray 5 fr) := heap_alloc_new w _
  rw [cell_of_row _ _ _ _ _ _ hh, Nat.zero_add]
  simp [bvs, bv, List.getElem?_eq_getElem hj]
theorem litrow1 (W : World) (A : Option Addr) (a d : Nat) (x : List UInt8) (hx : x.length = a) (h1 : Bys W A a d x) :
    Rws (W.alloc (.cells #[.slice A a d] 39)) (some ⟨W.heap.size, 0, none⟩) 1 1 [x] := by
  subst hx
  refine ⟨rfl, Nat.le_refl _, by unfold maxLen; omega, fun _ => ⟨W.heap.size, 0, [.slice A x.length d], rfl, by simp, rfl, ?_, ?_⟩⟩
  · intro j hj
    match j, hj with
    | 0, _ => simp
  · intro j hj hj'
    match j, hj, hj' with
    | 0, _, _ => exact ⟨A, d, rfl, h1.alloc _⟩
theorem litrow2 (W : World) (A B : Option Addr) (a b d e : Nat) (x y : List UInt8) (hx : x.length = a) (hy : y.length = b) (h1 : Bys W A a d x) (h2 : Bys W B b e y) :
    Rws (W.alloc (.cells #[.slice A a d, .slice B b e] 39)) (some ⟨W.heap.size, 0, none⟩) 2 2 [x, y] := by
  subst hx; subst hy
  refine ⟨rfl, Nat.le_refl _, by unfold maxLen; omega, fun _ => ⟨W.heap.size, 0, [.slice A x.length d, .slice B y.length e], rfl, by simp, rfl, ?_, ?_⟩⟩
  · intro j hj
    match j, hj with
    | 0, _ => simp
    | 1, _ => simp
  · intro j hj hj'
    match j, hj, hj' with
    | 0, _, _ => exact ⟨A, d, rfl, h1.alloc _⟩
    | 1, _, _ => exact ⟨B, e, rfl, h2.alloc _⟩

theorem litrow (W : World) (A B C : Option Addr) (a b c d e f : Nat) (x y z : List UInt8) (hx : x.length = a) (hy : y.length = b) (hz : z.length = c) (h1 : Bys W A a d x) (h2 : Bys W B b e y) (h3 : Bys W C c f z) :
    Rws (W.alloc (.cells #[.slice A a d, .slice B b e, .slice C c f] 39)) (some ⟨W.heap.size, 0, none⟩) 3 3 [x, y, z] := by
  subst hx; subst hy; subst hz
  refine ⟨rfl, Nat.le_refl _, by unfold maxLen; omega, fun _ => ⟨W.heap.size, 0, [.slice A x.length d, .slice B y.length e, .slice C z.length f], rfl, by simp, rfl, ?_, ?_⟩⟩
  · intro j hj
    match j, hj with
    | 0, _ => simp
    | 1, _ => simp
    | 2, _ => simp
  · intro j hj hj'
    match j, hj, hj' with
    | 0, _, _ => exact ⟨A, d, rfl, h1.alloc _⟩
    | 1, _, _ => exact ⟨B, e, rfl, h2.alloc _⟩
    | 2, _, _ => exact ⟨C, f, rfl, h3.alloc _⟩
end Go.Proofs.Ytoajbocpebfjoaa
