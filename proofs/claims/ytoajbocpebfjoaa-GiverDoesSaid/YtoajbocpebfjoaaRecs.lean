/- A slice of structs as an argument: each read by what is told of its cells. Nothing of the program's own functions is in here. -/
import Derived.Test.YtoajbocpebfjoaaArgs
import Derived.Test.YtoajbocpebfjoaaObj
import Derived.Deep.Slices
import Derived.Lib.SmallJoins
namespace Go.Proofs.Ytoajbocpebfjoaa
open Go.Joins Go.ChangeShapes Go.WideShapes Go.ChangeAt Go.RowKit Go.Deep
set_option maxRecDepth 20000

/-- the slice '.slice A n c' of structs of sz cells reads as l, each struct as rd says -/
def Recs {α : Type} (rd : World → Nat → Nat → α → Prop) (sz : Nat) (w : World) (A : Option Addr) (n c : Nat) (l : List α) : Prop :=
  l.length = n ∧ n ≤ c ∧ c ≤ maxLen ∧ (0 < n → ∃ b o, A = some ⟨b, o, none⟩ ∧ b < w.heap.size ∧ ∀ j (h : j < l.length), rd w b (o + j * sz) l[j])
def Keeps {α : Type} (rd : World → Nat → Nat → α → Prop) : Prop := ∀ w w' b o x, b < w.heap.size → Below w.heap.size w w' → rd w b o x → rd w' b o x
theorem Recs.below {α : Type} {rd : World → Nat → Nat → α → Prop} {sz n c : Nat} {w w' : World} {A : Option Addr} {l : List α} (h : Recs rd sz w A n c l) (hk : Keeps rd) (T : Below w.heap.size w w') : Recs rd sz w' A n c l :=
  ⟨h.1, h.2.1, h.2.2.1, fun hn => by
    obtain ⟨b, o, e, hb, hc⟩ := h.2.2.2 hn
    exact ⟨b, o, e, by have := T.size; omega, fun j hj => hk _ _ _ _ _ hb T (hc j hj)⟩⟩
theorem Recs.nil {α : Type} (rd : World → Nat → Nat → α → Prop) (sz : Nat) (w : World) : Recs rd sz w none 0 0 [] := ⟨rfl, Nat.le_refl _, Nat.zero_le _, fun h => absurd h (by omega)⟩
theorem arg_recs {α : Type} [Inhabited α] {rd : World → Nat → Nat → α → Prop} {sz : Nat} {H : Type} {enc : TypeId × Value → H} {W : World} {ts te : TypeId} {a : Option Addr} {n c : Nat} {d : DataW H} {p : List MemPlace}
    (hs : Try.prog.underlying ts = some (.slice te)) (hsz : Try.prog.cellsOf te = sz) (hz0 : 0 < sz)
    (hrd : ∀ (b o : Nat) (cs : List Value) (fuel : Nat) (y : DataW H × List MemPlace), DataW.trod enc Try.prog W 0 (fun _ => true) true fuel te cs = some y → cs.length = sz → (∀ i (h : i < cs.length), W.cell? ⟨b, o + i, none⟩ = some cs[i]) → ∃ x, rd W b o x)
    (h : DataW.Trod enc Try.prog W 0 (fun _ => true) true ts (.slice a n c) d p) : ∃ l, Recs rd sz W a n c l := by
  obtain ⟨fuel, hf⟩ := h
  rcases Go.Deep.open_slice hs hf with ⟨hcs, hx⟩ | ⟨x, len, cap, m, k, D, Pl, hcs, hb, hl, hm, hmm, hx, hcell⟩
  · simp [Value.cells] at hcs
    obtain ⟨rfl, rfl, rfl⟩ := hcs
    exact ⟨[], Recs.nil _ _ _⟩
  · simp [Value.cells] at hcs
    obtain ⟨rfl, rfl, rfl⟩ := hcs
    simp only [if_true] at hmm
    obtain ⟨b, o, spot⟩ := x
    have hspot : 0 < n → spot = none := fun hn => by
      obtain ⟨cs', h1, h2⟩ := hcell 0 (by omega)
      rw [hsz] at h1
      obtain ⟨_, hlen, hc⟩ := World.cells?_some h1
      have h0 := hc 0 (by omega)
      rw [List.getElem?_eq_getElem (by omega)] at h0
      simpa [Addr.add] using World.cell?_spot h0
    have each : ∀ i, i < n → ∃ e : α, rd W b (o + i * sz) e := by
      intro i hi
      have hsp := hspot (by omega)
      subst hsp
      obtain ⟨cs', h1, h2⟩ := hcell i (by omega)
      rw [hsz] at h1
      obtain ⟨_, hlen, hc⟩ := World.cells?_some h1
      refine hrd b (o + i * sz) cs' _ _ h2 (by omega) (fun j hj => ?_)
      have h3 := hc j (by omega)
      rw [List.getElem?_eq_getElem hj] at h3
      rw [← h3]
      have e : ((⟨b, o, none⟩ : Addr).add (i * sz)).add j = ⟨b, o + i * sz + j, none⟩ := by
        have k1 : (⟨b, o, none⟩ : Addr).add (i * sz) = ⟨b, o + i * sz, none⟩ := by unfold Addr.add; split <;> simp_all
        rw [k1]
        unfold Addr.add; split <;> simp_all
      rw [e]
    obtain ⟨E, hE⟩ := Go.Deep.choose_lt each
    refine ⟨(List.range n).map E, by simp, hl, hm, fun hn => ?_⟩
    have hsp := hspot hn
    subst hsp
    refine ⟨b, o, rfl, ?_, fun j hj => ?_⟩
    · obtain ⟨cs', h1, h2⟩ := hcell 0 (by omega)
      rw [hsz] at h1
      obtain ⟨_, hlen, hc⟩ := World.cells?_some h1
      have h0 := hc 0 (by omega)
      rw [List.getElem?_eq_getElem (by omega)] at h0
      simpa [Addr.add] using block_lt_of_cell h0
    · simp at hj
      have := hE j hj
      simpa using this
theorem trod_bys {H : Type} {enc : TypeId × Value → H} {W : World} {v : Value} {y : DataW H × List MemPlace} {fuel : Nat}
    (h : DataW.trod enc Try.prog W 0 (fun _ => true) true fuel 39 [v] = some y) : ∃ a n c l, v = .slice a n c ∧ Bys W a n c l := by
  rcases open_ints Try.underlying39 Try.underlying5 (by kernel_rfl) h with ⟨hcs, hx⟩ | ⟨x, l, cc, zs, hcs, _, hl, hm, hz, hx, hcell, hwz⟩
  · simp at hcs
    exact ⟨none, 0, 0, [], hcs, Bys.nil _⟩
  · simp at hcs
    simp only [if_true] at hz
    exact ⟨_, _, _, _, hcs, bys_of_ints hl hm hz hcell hwz⟩
end Go.Proofs.Ytoajbocpebfjoaa
