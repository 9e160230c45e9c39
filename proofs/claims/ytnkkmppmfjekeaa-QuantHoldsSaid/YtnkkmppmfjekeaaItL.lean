/- Rows of diagrams in order (upward), And, Or, by contract. -/
import Derived.Test.YtnkkmppmfjekeaaItK
import Derived.Test.YtnkkmppmfjekeaaItG
namespace Go.Proofs.Ytnkkmppmfjekeaa.ItL
open Go.Shelf Go.RowKit Go.Sort Go.Lib Go.Proofs Go.Proofs.Ytnkkmppmfjekeaa.CaA Go.Proofs.Ytnkkmppmfjekeaa.NdA Go.Proofs.Ytnkkmppmfjekeaa.NdB Go.Proofs.Ytnkkmppmfjekeaa.NdC Go.Proofs.Ytnkkmppmfjekeaa.NdE Go.Proofs.Ytnkkmppmfjekeaa.NdG Go.Proofs.Ytnkkmppmfjekeaa.NdI Go.Proofs.Ytnkkmppmfjekeaa.ItA Go.Proofs.Ytnkkmppmfjekeaa.ItB Go.Proofs.Ytnkkmppmfjekeaa.ItD Go.Proofs.Ytnkkmppmfjekeaa.ItE Go.Proofs.Ytnkkmppmfjekeaa.ItF Go.Proofs.Ytnkkmppmfjekeaa.ItG Go.Proofs.Ytnkkmppmfjekeaa.ItH Go.Proofs.Ytnkkmppmfjekeaa.ItI Go.Proofs.Ytnkkmppmfjekeaa.ItJ Go.Proofs.Ytnkkmppmfjekeaa.ItK
set_option linter.unusedVariables false
set_option linter.unusedSimpArgs false
def toI (n : Int) : I64 := if h : -9223372036854775808 ≤ n ∧ n ≤ 9223372036854775807 then ⟨n, h⟩ else ⟨0, by omega, by omega⟩
theorem toI_val {n : Int} (h : -9223372036854775808 ≤ n ∧ n ≤ 9223372036854775807) : (toI n).1 = n := by unfold toI; rw [dif_pos h]
/-- A row of diagrams, those of greater variables first. -/
def srtI (K : Nat) (L : List Nd) (l : List Int) : List Int := (srt (T K L) (l.map toI)).map (·.1)
theorem srt_T (s : St) (l : List I64) : srt s l = srt (T s.vars s.L) l := rfl
theorem srtI_len (K : Nat) (L : List Nd) (l : List Int) : (srtI K L l).length = l.length := by
  unfold srtI
  rw [List.length_map, (srt_perm _ _).length_eq, List.length_map]
theorem srtI_perm {K : Nat} {L : List Nd} {l : List Int} (h : ∀ n ∈ l, -9223372036854775808 ≤ n ∧ n ≤ 9223372036854775807) : (srtI K L l).Perm l := by
  have := (srt_perm (T K L) (l.map toI)).map (·.1)
  have e : (l.map toI).map (·.1) = l := by
    rw [List.map_map]
    conv => rhs; rw [← List.map_id l]
    exact List.map_congr_left (fun n hn => toI_val (h n hn))
  rw [e] at this
  exact this
theorem below_sortW {w : World} {g n : Nat} {d : Array I64} {os : Array Obj} (hg : g < w.heap.size) : RowKit.Below g w (sortWorld ItG.encI w g 0 n d os) :=
  ⟨rfl, rfl, rfl, sortW_size, fun k hk => sortW_block (by omega) (by omega)⟩
section
variable {D : Nat} {x : Bx} {c : Nat} {s : St} {N : Nat} {w : World}
theorem row_own {w : World} {B : Nat} {v : Value} {l : List Int} (hv : v ≠ .slice none 0 0) (h : w.ownsRow B 3 1 v l.length ((l.take l.length).map (Value.int .i64))) : ∃ g cap, v = .slice (some ⟨g, 0, none⟩) l.length cap ∧ B ≤ g ∧ g < w.heap.size ∧ ∀ j, (hj : j < l.length) → w.cell? ⟨g, j, none⟩ = some (.int .i64 l[j]) ∧ w.frozen? ⟨g, j, none⟩ = false := by
  have h0 := h
  rcases h.2 with ⟨h1, _⟩ | ⟨g, cap, cur, rfl, hb, hg, _⟩
  · exact absurd h1 hv
  · refine ⟨g, cap, rfl, hb, (Array.getElem?_eq_some_iff.1 hg).1, fun j hj => ⟨?_, ?_⟩⟩
    · have k := h0.cells (g := g) rfl j (.int .i64 l[j]) (by rw [List.take_length, List.getElem?_map, List.getElem?_eq_getElem hj]; rfl)
      have e : ((⟨g, 0, none⟩ : Addr).add j) = ⟨g, j, none⟩ := by unfold Addr.add; split <;> simp_all
      rw [e] at k
      exact k
    · unfold World.frozen?
      rw [hg]
      rfl
def UpPost (s : St) (l : List Int) (w : World) (e : Ending) (w' : World) : Prop := ∃ A ca, e = .returned (.slice A l.length ca) ∧ RowI w' A (srtI s.vars s.L l) ∧ (∀ a, A = some a → w.heap.size ≤ a.block) ∧ Below w.heap.size w w'
set_option maxHeartbeats 2000000 in
set_option maxRecDepth 100000 in
theorem up_ (A : Option Addr) (ca : Nat) (l : List Int) (hn : 0 < l.length) (hl : l.length ≤ 100) (hall : ∀ f ∈ l, isB s f = true) (hA : RowI w A l) (H : Bd w D x c s N) :
    Calls Try.prog 64 #[.pointer (some ⟨D, 0, none⟩), .slice A l.length ca] w (UpPost s l w) := by
  unfold UpPost
  have hlen := H.tk.tb.len
  have hrng : ∀ f ∈ l, -9223372036854775808 ≤ f ∧ f ≤ 9223372036854775807 := fun f hf => is_range (by omega) (hall f hf)
  have hb := (Below.refl w.heap.size w).alloc (Nat.le_refl _) (.cells #[.pointer (some ⟨D, 0, none⟩)] 28)
  have hx0 := Lib.cell_of_heap (heap_alloc_new w (.cells #[.pointer (some ⟨D, 0, none⟩)] 28)) 0
  have hx0' : (w.alloc (.cells #[.pointer (some ⟨D, 0, none⟩)] 28)).cell? ⟨w.heap.size, 0, none⟩ = some (.pointer (some ⟨D, 0, none⟩)) := hx0
  have hsz : (w.alloc (.cells #[.pointer (some ⟨D, 0, none⟩)] 28)).heap.size = w.heap.size + 1 := by simp
  obtain ⟨b, rfl, hbl, hcl⟩ := (hA.below hb) hn
  have HC := Lib.hid (Try.slices_Clone_int b 0 l.length ca l (w.alloc (.cells #[.pointer (some ⟨D, 0, none⟩)] 28)) (Nat.le_refl _) (by omega) (fun j hj => by
    rw [Nat.zero_add, hcl j hj, List.getD_eq_getElem?_getD, List.getElem?_eq_getElem hj]
    rfl))
  have HH := Lib.hid H
  have HHb := Lib.hid (And.intro hb (And.intro hx0' hsz))
  have HR := Lib.hid (And.intro hall (And.intro hrng (And.intro hn hl)))
  clear H hA hall hrng hb hx0 hx0' hsz hbl hcl hn hl hlen
  go_enter Try.func64, Try.ntmps64
  go_wp2_with fail
  refine HC.out.mono ?_
  rintro e w2 ⟨v', rfl, hown, hv', hb2⟩
  obtain ⟨g, cap, rfl, hg1, hg2, hgc⟩ := row_own hv' hown
  have hbq := HHb.out
  have hb02 := hbq.1.trans (hb2.mono (by have := hbq.2.2; omega))
  have HB2 := Lib.hid hb02
  have hx2 := (hb2.cell (p := ⟨w.heap.size, 0, none⟩) (by have := hbq.2.2; show w.heap.size < _; omega)).trans hbq.2.1
  have e1 : (l.map toI).length = l.length := List.length_map ..
  have hHo : Holds ItG.encI w2 g 0 (l.map toI).toArray := fun j hj => by
    have hj' : j < l.length := by rw [← e1]; simpa using hj
    obtain ⟨k1, k2⟩ := hgc j hj'
    rw [Nat.zero_add]
    refine ⟨?_, k2⟩
    rw [k1]
    congr 1
    show _ = Value.int .i64 ((l.map toI).toArray[j]!).1
    rw [getElem!_pos _ j hj]
    simp only [List.getElem_toArray, List.getElem_map]
    rw [toI_val (HR.out.2.1 _ (List.getElem_mem hj'))]
  have hS := sort_ w.heap.size g cap (l.map toI) (by rw [e1]; have := HR.out.2.2.2; omega) hx2 (by omega) (fun h => by have := HH.out.foot h; omega) hg2 hHo (HH.out.below hb02)
  rw [e1] at hS
  unfold upV at hS
  have HS := Lib.hid hS
  have HG := Lib.hid (And.intro hg1 (And.intro hg2 (And.intro hHo hbq.2.2)))
  clear hS hHo hgc hx2 hb02 hown hb2 hg1 hg2 hbq hv'
  go_wp2_with fail
  refine HS.out.mono ?_
  rintro e w3 ⟨rfl, n, os, rfl⟩
  obtain ⟨hg1, hg2, hHo, hsz⟩ := HG.out
  have hsl : (srt s (l.map toI)).toArray.size = (l.map toI).toArray.size := by simp [(srt_perm s (l.map toI)).length_eq]
  have hH3 := holds_sortWorld ItG.encI w2 g 0 n (l.map toI).toArray (srt s (l.map toI)).toArray os hg2 hHo hsl
  have HE : Hid (RowI (sortWorld ItG.encI w2 g 0 n (srt s (l.map toI)).toArray os) (some ⟨g, 0, none⟩) (srtI s.vars s.L l)) := Lib.hid (fun _ => ⟨g, rfl, Nat.lt_of_lt_of_le hg2 sortW_size, fun j hj => by
    have hj' : j < (srt s (l.map toI)).toArray.size := by
      unfold srtI at hj
      simpa [← srt_T] using hj
    have := (hH3 j hj').1
    rw [Nat.zero_add] at this
    rw [this]
    congr 1
    show Value.int .i64 ((srt s (l.map toI)).toArray[j]!).1 = _
    rw [getElem!_pos _ j hj']
    have e : (srtI s.vars s.L l)[j] = ((srt s (l.map toI))[j]'(by simpa using hj')).1 := List.getElem_map (fun y : I64 => y.1)
    rw [e]
    simp only [List.getElem_toArray]⟩)
  have HFr : Hid (∀ a, some (⟨g, 0, none⟩ : Addr) = some a → w.heap.size ≤ a.block) := Lib.hid (fun a ha => by
    injection ha with ha
    subst ha
    show w.heap.size ≤ g
    omega)
  have HB3 := Lib.hid (HB2.out.trans ((below_sortW (n := n) (d := (srt s (l.map toI)).toArray) (os := os) hg2).mono (by omega)))
  clear hg1 hg2 hHo hsz hsl hH3 HG HS
  generalize sortWorld ItG.encI w2 g 0 n (srt s (l.map toI)).toArray os = w3 at *
  go_wp2_with fail
  go_ret
  exact ⟨_, _, rfl, HE.out, HFr.out, HB3.out⟩
set_option maxHeartbeats 1000000 in
set_option maxRecDepth 100000 in
theorem up0 (H : Bd w D x c s N) : Calls Try.prog 64 #[.pointer (some ⟨D, 0, none⟩), .slice none 0 0] w (UpPost s [] w) := by
  unfold UpPost
  have HB := Lib.hid ((Below.refl w.heap.size w).alloc (Nat.le_refl _) (.cells #[.pointer (some ⟨D, 0, none⟩)] 28))
  have HC := Lib.hid (fun w => Try.slices_Clone_int_nil 0 0 w)
  have HS := Lib.hid (fun fv w => sortNone_ (w := w) fv)
  clear H
  go_enter Try.func64, Try.ntmps64
  go_wp2_with fail
  refine (HC.out _).mono ?_
  rintro e w2 ⟨rfl, rfl⟩
  go_wp2_with fail
  refine (HS.out _ _).mono ?_
  rintro e w2 ⟨rfl, rfl⟩
  go_wp2_with fail
  go_ret
  exact ⟨none, 0, rfl, (fun h => absurd h (by rw [srtI_len]; exact Nat.lt_irrefl 0)), (fun a ha => by cases ha), HB.out⟩
end
end Go.Proofs.Ytnkkmppmfjekeaa.ItL
