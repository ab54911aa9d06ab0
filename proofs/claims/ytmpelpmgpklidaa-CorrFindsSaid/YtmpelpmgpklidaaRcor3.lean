/- What kedgeref08's Find and Peak answer. -/
import Derived.Test.YtmpelpmgpklidaaRcor2
namespace Go.Proofs.Ytmpelpmgpklidaa
open Go.RowKit

/-- what a call of Find tells; of Peak -/
def GivesFd (w : World) (l mark : List Pt) (e : Ending) (w' : World) : Prop := ∃ a t ok, e = .returned (.tuple #[.int .i64 (a : Nat), .int .i64 (t : Nat), .bool ok]) ∧ FindR l mark a t ok ∧ Below w.heap.size w w'
def GivesPk (w : World) (l mark : List Pt) (e : Ending) (w' : World) : Prop := ∃ a ok, e = .returned (.tuple #[.int .i64 (a : Nat), .bool ok]) ∧ PeakR l mark a ok ∧ Below w.heap.size w w'
set_option maxHeartbeats 4000000 in
theorem rfind_any (A : Option Addr) (n c : Nat) (l : List Pt) (B : Option Addr) (m d : Nat) (mark : List Pt) (w : World) (hP : Ps w A n c l) (hQ : Ps w B m d mark) (hr : ∀ p ∈ mark, Near p) (hm : m ≤ 400) (hn : n ≤ 400) :
    Calls Try.prog 19 #[.slice A n c, .slice B m d] w (GivesFd w l mark) := by
  have HST := Lib.hid (fun (a t : Nat) W (k : Below w.heap.size w W) (ha : a + m ≤ n) => rstands_any A n c l B m d mark a t W (hP.below k) (hQ.below k) hr ha hm hn)
  have hl1 := hP.len
  have hl2 := hQ.len
  subst hl1 hl2
  clear hP hQ hr
  by_cases h0 : mark.length = 0
  · have HF : Hid (FindR l mark 0 0 false) := .inr ⟨rfl, rfl, rfl, .inl h0⟩
    clear HST
    generalize mark.length = m at *
    subst h0
    go_enter Try.func19, Try.ntmps19
    go_wp2_with (fail)
    go_loopw [7] (fun i wr => i = .int .i64 0 ∧ w = wr) (fun _ _ => 0)
    case atStart => exact ⟨rfl, rfl⟩
    case round =>
      obtain ⟨rfl, rfl⟩ := hrel
      go_wp2
      go_ret3
      exact ⟨0, 0, false, rfl, HF.out, Below.refl _ _⟩
  · have hpos : 0 < mark.length := by omega
    have d0 : decide ((0 : Int) < (mark.length : Int)) = true := by simp; omega
    go_enter Try.func19, Try.ntmps19
    go_wp2_with (fail)
    go_loopw [7] (fun i wr => ∃ k : Nat, i = .int .i64 (k : Int) ∧ (k = 0 ∨ k + mark.length ≤ l.length + 1) ∧ Hid (∀ b, b < k → ∀ u, u < 4 → ¬ St l mark b u) ∧ Below w.heap.size w wr) (fun i _ => l.length + 1 - (intOf i).toNat)
    case atStart => exact ⟨0, rfl, .inl rfl, fun b hb => absurd hb (by omega), Below.refl _ _⟩
    case round =>
      obtain ⟨k, rfl, hk, HN, hbel⟩ := hrel
      by_cases h1 : k + mark.length ≤ l.length
      · have d1 : decide ((k : Int) ≤ (l.length : Int) - (mark.length : Int)) = true := by simp; omega
        go_wp2_with (fail)
        go_loopw [8] (fun i wr => ∃ t : Nat, i = .int .i64 (t : Int) ∧ t ≤ 4 ∧ Hid (∀ u, u < t → ¬ St l mark k u) ∧ Below w.heap.size w wr) (fun i _ => 4 - (intOf i).toNat)
        case atStart => exact ⟨0, rfl, by decide, fun b hb => absurd hb (by omega), hbel⟩
        case round =>
          obtain ⟨t, rfl, ht, HM, hbel2⟩ := hrel
          by_cases h2 : t < 4
          · go_wp2_with (fail)
            refine (HST.out k t _ hbel2 h1).mono ?_
            rintro e w2 ⟨r, rfl, hr, T2⟩
            have T2 := nxt hbel2 T2
            cases r with
            | true =>
              have HF : Hid (FindR l mark k t true) := .inl ⟨rfl, hpos, h1, h2, hr.1 rfl, HM.out, HN.out⟩
              clear hr
              go_wp2
              go_ret3
              exact ⟨k, t, true, rfl, HF.out, T2⟩
            | false =>
              have HF : Hid (∀ u, u < t + 1 → ¬ St l mark k u) := fun u hu hs => by
                by_cases h3 : u < t
                · exact HM.out u h3 hs
                · obtain rfl : u = t := by omega
                  exact absurd (hr.2 hs) (by decide)
              clear hr
              go_wp2
              go_roundw
              case rel => exact ⟨t + 1, by go_num, by omega, HF.out, T2⟩
              case measure => simp [intOf]; omega
          · obtain rfl : t = 4 := by omega
            have HF : Hid (∀ b, b < k + 1 → ∀ u, u < 4 → ¬ St l mark b u) := fun b hb u hu hs => by
              by_cases h3 : b < k
              · exact HN.out b h3 u hu hs
              · obtain rfl : b = k := by omega
                exact HM.out u hu hs
            go_wp2
            go_roundw
            case rel => exact ⟨k + 1, by go_num, .inr (by omega), HF.out, hbel2⟩
            case measure => simp [intOf]; omega
      · have d1 : decide ((k : Int) ≤ (l.length : Int) - (mark.length : Int)) = false := by simp; omega
        have HF : Hid (FindR l mark 0 0 false) := .inr ⟨rfl, rfl, rfl, .inr (fun b hb => HN.out b (by omega))⟩
        go_wp2
        go_ret3
        exact ⟨0, 0, false, rfl, HF.out, hbel⟩

theorem Ps.drop {w : World} {b o n c : Nat} {l : List Pt} (h : Ps w (some ⟨b, o, none⟩) n c l) (k : Nat) (hk : k ≤ n) : Ps w (some ⟨b, o + k * 2, none⟩) (n - k) (c - k) (l.drop k) := by
  obtain ⟨h1, h2, h3, h4⟩ := h
  refine ⟨by simp; omega, by omega, by omega, fun hn => ?_⟩
  obtain ⟨b', o', e, hb, hc⟩ := h4 (by omega)
  cases e
  refine ⟨b, o + k * 2, rfl, hb, fun j hj => ?_⟩
  have hj' : k + j < l.length := by simp at hj; omega
  obtain ⟨c1, c2⟩ := hc (k + j) hj'
  rw [List.getElem_drop]
  rw [show o + k * 2 + j * 2 = o + (k + j) * 2 by omega]
  exact ⟨c1, c2⟩
set_option maxHeartbeats 4000000 in
theorem rpeak_any (A : Option Addr) (n c : Nat) (l : List Pt) (B : Option Addr) (m d : Nat) (mark : List Pt) (w : World) (hP : Ps w A n c l) (hQ : Ps w B m d mark) (hl : ∀ p ∈ l, Near p) (hr : ∀ p ∈ mark, Near p) (hm : m ≤ 400) (hn : n ≤ 400) :
    Calls Try.prog 21 #[.slice A n c, .slice B m d] w (GivesPk w l mark) := by
  by_cases h1 : 0 < m ∧ m ≤ n
  · obtain ⟨g, o, rfl, hg, -⟩ := hP.at_ (by omega)
    have HDT : Hid (∀ (k : Nat) W, Below w.heap.size w W → k ≤ n → Calls Try.prog 11 #[.slice (some ⟨g, o + k * 2, none⟩) (n - k) (c - k), .slice B m d] W fun e w' => e = .returned (.agg #[.int .i64 (dotP (l.drop k) mark).1, .int .i64 (dotP (l.drop k) mark).2]) ∧ Below W.heap.size W w') := fun k W kk hk =>
      rdot_any _ _ _ _ B m d mark W ((hP.below kk).drop k hk) (hQ.below kk) (fun p hp => hl p (List.mem_of_mem_drop hp)) hr hm
    have HSZ : Hid (∀ (k : Nat) W, Calls Try.prog 14 #[.agg #[.int .i64 (dotP (l.drop k) mark).1, .int .i64 (dotP (l.drop k) mark).2]] W fun e w' => e = .returned (.int .i64 (fitI l mark k)) ∧ Below W.heap.size W w') := fun k W => by
      have hd := dot_near (l.drop k) mark (fun p hp => hl p (List.mem_of_mem_drop hp)) hr (by rw [hQ.len]; exact hm)
      exact rsize_any _ W (by omega)
    have hl1 := hP.len
    have hl2 := hQ.len
    have hnc := hP.le
    have hcm := hP.cap
    subst hl1 hl2
    obtain ⟨hpos, hml⟩ := h1
    clear hP hQ hl hr
    have d0 : decide ((0 : Int) < (mark.length : Int)) = true := by simp; omega
    go_enter Try.func21, Try.ntmps21
    go_wp2_with (fail)
    go_loopw [6, 7, 8] (fun bv sv i wr => ∃ (k : Nat) (bz sz : Int), i = .int .i64 (k : Int) ∧ bv = .int .i64 bz ∧ sv = .int .i64 sz ∧ k + mark.length ≤ l.length + 1 ∧ Hid ((k = 0 ∧ bz = -1) ∨ ∃ b : Nat, bz = b ∧ b < k ∧ sz = fitI l mark b ∧ (∀ a, a < k → fitI l mark a ≤ fitI l mark b) ∧ ∀ a, a < b → fitI l mark a < fitI l mark b) ∧ Below w.heap.size w wr) (fun _ _ i _ => l.length + 1 - (intOf i).toNat)
    case atStart => exact ⟨0, -1, 0, rfl, rfl, rfl, by omega, .inl ⟨rfl, rfl⟩, Below.refl _ _⟩
    case round =>
      obtain ⟨k, bz, sz, rfl, rfl, rfl, hk, HB, hbel⟩ := hrel
      by_cases h2 : k + mark.length ≤ l.length
      · have d1 : decide ((k : Int) ≤ (l.length : Int) - (mark.length : Int)) = true := by simp; omega
        have hD := HDT.out k _ hbel (by omega)
        have hS := HSZ.out k
        have hnew : ((k = 0 ∧ bz = -1) ∨ ∃ b : Nat, bz = b ∧ b < k ∧ sz = fitI l mark b ∧ (∀ a, a < k → fitI l mark a ≤ fitI l mark b) ∧ ∀ a, a < b → fitI l mark a < fitI l mark b) := HB.out
        obtain ⟨f, hf⟩ : ∃ f, f = fitI l mark k := ⟨_, rfl⟩
        rw [← hf] at hS
        generalize dotP (l.drop k) mark = q at *
        obtain ⟨qa, qb⟩ := q
        have HD := Lib.hid hD
        have HS := Lib.hid hS
        clear hD hS
        by_cases hbz : bz < 0
        · have d2 : decide (bz < 0) = true := by simpa using hbz
          have HN : Hid (∃ b : Nat, ((k : Int) = b) ∧ b < k + 1 ∧ f = fitI l mark b ∧ (∀ a, a < k + 1 → fitI l mark a ≤ fitI l mark b) ∧ ∀ a, a < b → fitI l mark a < fitI l mark b) := by
            rcases hnew with ⟨rfl, -⟩ | ⟨b, hb, _⟩
            · exact ⟨0, rfl, by omega, hf, fun a ha => (by rw [show a = 0 by omega]; exact Int.le_refl _), fun a ha => absurd ha (by omega)⟩
            · omega
          clear hnew hf HB
          go_wp2_with (fail)
          refine HD.out.mono ?_
          rintro e w2 ⟨rfl, T2⟩
          go_wp2_with (fail)
          refine (HS.out _).mono ?_
          rintro e w3 ⟨rfl, T3⟩
          have T3 := nxt (nxt hbel T2) T3
          go_wp2
          go_roundw
          case rel => exact ⟨k + 1, k, f, by go_num, rfl, rfl, by omega, .inr HN.out, T3⟩
          case measure => simp [intOf]; omega
        · have d2 : decide (bz < 0) = false := by simpa using hbz
          obtain ⟨b, hb, hbk, hsz, hmx, hlt⟩ : ∃ b : Nat, bz = b ∧ b < k ∧ sz = fitI l mark b ∧ (∀ a, a < k → fitI l mark a ≤ fitI l mark b) ∧ ∀ a, a < b → fitI l mark a < fitI l mark b := by
            rcases hnew with ⟨-, h⟩ | h
            · omega
            · exact h
          subst hb
          by_cases hgt : sz < f
          · have d3 : decide (sz < f) = true := by simpa using hgt
            have HN : Hid (∃ b : Nat, ((k : Int) = b) ∧ b < k + 1 ∧ f = fitI l mark b ∧ (∀ a, a < k + 1 → fitI l mark a ≤ fitI l mark b) ∧ ∀ a, a < b → fitI l mark a < fitI l mark b) := by
              refine ⟨k, rfl, by omega, hf, fun a ha => ?_, fun a ha => ?_⟩
              · by_cases h3 : a < k
                · have := hmx a h3
                  omega
                · obtain rfl : a = k := by omega
                  exact Int.le_refl _
              · have := hmx a ha
                omega
            clear hnew hf HB hmx hlt hsz
            go_wp2_with (fail)
            refine HD.out.mono ?_
            rintro e w2 ⟨rfl, T2⟩
            go_wp2_with (fail)
            refine (HS.out _).mono ?_
            rintro e w3 ⟨rfl, T3⟩
            have T3 := nxt (nxt hbel T2) T3
            go_wp2
            go_roundw
            case rel => exact ⟨k + 1, k, f, by go_num, rfl, rfl, by omega, .inr HN.out, T3⟩
            case measure => simp [intOf]; omega
          · have d3 : decide (sz < f) = false := by simpa using hgt
            have HN : Hid (∃ b' : Nat, ((b : Int) = b') ∧ b' < k + 1 ∧ sz = fitI l mark b' ∧ (∀ a, a < k + 1 → fitI l mark a ≤ fitI l mark b') ∧ ∀ a, a < b' → fitI l mark a < fitI l mark b') := by
              refine ⟨b, rfl, by omega, hsz, fun a ha => ?_, hlt⟩
              by_cases h3 : a < k
              · exact hmx a h3
              · obtain rfl : a = k := by omega
                omega
            clear hnew hf HB hmx hlt hsz
            go_wp2_with (fail)
            refine HD.out.mono ?_
            rintro e w2 ⟨rfl, T2⟩
            go_wp2_with (fail)
            refine (HS.out _).mono ?_
            rintro e w3 ⟨rfl, T3⟩
            have T3 := nxt (nxt hbel T2) T3
            go_wp2
            go_roundw
            case rel => exact ⟨k + 1, (b : Int), sz, by go_num, rfl, rfl, by omega, .inr HN.out, T3⟩
            case measure => simp [intOf]; omega
      · have d1 : decide ((k : Int) ≤ (l.length : Int) - (mark.length : Int)) = false := by simp; omega
        obtain ⟨b, hb, hbk, hsz, hmx, hlt⟩ : ∃ b : Nat, bz = b ∧ b < k ∧ sz = fitI l mark b ∧ (∀ a, a < k → fitI l mark a ≤ fitI l mark b) ∧ ∀ a, a < b → fitI l mark a < fitI l mark b := by
          rcases HB.out with ⟨h, -⟩ | h
          · omega
          · exact h
        subst hb
        have d2 : decide ((b : Int) < 0) = false := by simp
        have HF : Hid (PeakR l mark b true) := .inl ⟨rfl, hpos, by omega, fun a ha => hmx a (by omega), hlt⟩
        clear hmx hlt HB hsz
        go_wp2
        go_ret2
        exact ⟨b, true, rfl, HF.out, hbel⟩
  · have hl1 := hP.len
    have hl2 := hQ.len
    have HF : Hid (PeakR l mark 0 false) := .inr ⟨rfl, rfl, by omega⟩
    subst hl1 hl2
    clear hP hQ hl hr
    by_cases h0 : mark.length = 0
    · generalize mark.length = m at *
      subst h0
      go_enter Try.func21, Try.ntmps21
      go_wp2_with (fail)
      go_loopw [6, 8] (fun b i wr => b = .int .i64 (-1) ∧ i = .int .i64 0 ∧ w = wr) (fun _ _ _ => 0)
      case atStart => exact ⟨rfl, rfl, rfl⟩
      case round =>
        obtain ⟨rfl, rfl, rfl⟩ := hrel
        go_wp2
        go_ret2
        exact ⟨0, false, rfl, HF.out, Below.refl _ _⟩
    · have d1 : decide ((0 : Int) ≤ (l.length : Int) - (mark.length : Int)) = false := by simp; omega
      go_enter Try.func21, Try.ntmps21
      go_wp2_with (fail)
      go_loopw [6, 8] (fun b i wr => b = .int .i64 (-1) ∧ i = .int .i64 0 ∧ w = wr) (fun _ _ _ => 0)
      case atStart => exact ⟨rfl, rfl, rfl⟩
      case round =>
        obtain ⟨rfl, rfl, rfl⟩ := hrel
        go_wp2
        go_ret2
        exact ⟨0, false, rfl, HF.out, Below.refl _ _⟩
end Go.Proofs.Ytmpelpmgpklidaa
