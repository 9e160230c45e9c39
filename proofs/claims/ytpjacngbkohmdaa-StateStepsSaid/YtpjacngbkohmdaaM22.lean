/- slices.DeleteFunc at statements, with not's closure, and pick, by contract. -/
import Derived.Test.YtpjacngbkohmdaaM21
import Derived.Test.YtpjacngbkohmdaaM04
import Derived.Test.YtpjacngbkohmdaaM07
import Derived.Test.YtpjacngbkohmdaaM20
namespace Go.Proofs.Ytpjacngbkohmdaa.StD
set_option linter.unusedVariables false
set_option linter.unusedSimpArgs false
open Go.Shelf Go.RowKit Go.Sort Go.Lib Go.Proofs Go.Proofs.Ytpjacngbkohmdaa.Plain Go.Proofs.Ytpjacngbkohmdaa.SynP Go.Proofs.Ytpjacngbkohmdaa.Grown Go.Proofs.Ytpjacngbkohmdaa.SynC Go.Proofs.Ytpjacngbkohmdaa.SynD Go.Proofs.Ytpjacngbkohmdaa.SynD2 Go.Proofs.Ytpjacngbkohmdaa.SynD3 Go.Proofs.Ytpjacngbkohmdaa.SynD7 Go.Proofs.Ytpjacngbkohmdaa.SynD8 Go.Proofs.Ytpjacngbkohmdaa.PolE Go.Proofs.Ytpjacngbkohmdaa.StA Go.Proofs.Ytpjacngbkohmdaa.StB Go.Proofs.Ytpjacngbkohmdaa.StC
set_option linter.unusedVariables false
set_option linter.unusedSimpArgs false
/-- What DeleteFunc's loop keeps: of the first m those that may be, at the row's front. -/
structure DelInv (p : St → Bool) (d : Array St) (m k : Nat) (dk : Array St) : Prop where
  size : dk.size = d.size
  lt : k < m
  le : m ≤ d.size
  low : dk.toList.take k = (d.toList.take m).filter p
  len : ((d.toList.take m).filter p).length = k
  high : ∀ j, m ≤ j → dk[j]! = d[j]!
theorem take_snoc (d : Array St) {m : Nat} (hm : m < d.size) : d.toList.take (m + 1) = d.toList.take m ++ [d[m]!] := by
  rw [List.take_succ_eq_append_getElem (by simpa using hm), getElem!_pos d m hm]
  simp
theorem DelInv.start {p : St → Bool} {d : Array St} {i : Nat} (hi : i < d.size) (hall : ∀ j, j < i → p d[j]! = true) (hno : p d[i]! = false) : DelInv p d (i + 1) i d := by
  have hf : (d.toList.take i).filter p = d.toList.take i := by
    rw [List.filter_eq_self]
    intro x hx
    obtain ⟨j, hj, rfl⟩ := List.getElem_of_mem hx
    rw [List.length_take, Array.length_toList] at hj
    have := hall j (by omega)
    rw [getElem!_pos d j (by omega)] at this
    simpa using this
  refine ⟨rfl, by omega, by omega, ?_, ?_, fun _ _ => rfl⟩
  · rw [take_snoc d hi, List.filter_append, hf]; simp [hno]
  · rw [take_snoc d hi, List.filter_append, hf]; simp [hno]; omega
theorem DelInv.skip {p : St → Bool} {d dk : Array St} {m k : Nat} (h : DelInv p d m k dk) (hm : m < d.size) (hno : p d[m]! = false) : DelInv p d (m + 1) k dk := by
  refine ⟨h.size, by have := h.lt; omega, by omega, ?_, ?_, fun j hj => h.high j (by omega)⟩
  · rw [take_snoc d hm, List.filter_append, ← h.low]; simp [hno]
  · rw [take_snoc d hm, List.filter_append, List.length_append, h.len]; simp [hno]
theorem DelInv.keep {p : St → Bool} {d dk : Array St} {m k : Nat} (h : DelInv p d m k dk) (hm : m < d.size) (hp : p d[m]! = true) : DelInv p d (m + 1) (k + 1) (dk.setIfInBounds k d[m]!) := by
  have hlt := h.lt
  have hsz := h.size
  refine ⟨by simpa using h.size, by omega, by omega, ?_, ?_, fun j hj => ?_⟩
  · rw [take_snoc d hm, List.filter_append, ← h.low]
    have e : (dk.setIfInBounds k d[m]!).toList = dk.toList.set k d[m]! := by simp
    rw [e, List.take_succ_eq_append_getElem (by simp; omega)]
    simp [hp, List.take_set_of_le]
  · rw [take_snoc d hm, List.filter_append, List.length_append, h.len]; simp [hp]
  · rw [← h.high j (by omega)]
    by_cases hj2 : j < dk.size
    · rw [getElem!_pos (dk.setIfInBounds k d[m]!) j (by simpa using hj2), getElem!_pos dk j hj2, Array.getElem_setIfInBounds_ne (by simpa using hj2) (by omega)]
    · rw [getElem!_neg (dk.setIfInBounds k d[m]!) j (by simpa using hj2), getElem!_neg dk j hj2]
theorem DelInv.done {p : St → Bool} {d dk : Array St} {k : Nat} (h : DelInv p d d.size k dk) : dk.toList.take k = d.toList.filter p := by
  rw [h.low, List.take_of_length_le (by simp)]

/-- Below g all stays, and block b. -/
structure BX (g b : Nat) (w w' : World) : Prop where
  lo : Below g w w'
  k : w'.heap[b]? = w.heap[b]?
theorem BX.refl (g b : Nat) (w : World) : BX g b w w := ⟨Below.refl _ _, rfl⟩
theorem BX.below {g b : Nat} {w w1 w2 : World} (h : BX g b w w1) (hg : g < w1.heap.size) (hb : b < w1.heap.size) (hx : Below w1.heap.size w1 w2) : BX g b w w2 := ⟨h.lo.trans (hx.mono (Nat.le_of_lt hg)), (hx.block b hb).trans h.k⟩
theorem heap_setCells_ne (g : Nat) : ∀ (vs : List Value) (o : Nat) (w : World) (b : Nat), b ≠ g → (w.setCells g o vs).heap[b]? = w.heap[b]?
  | [], o, w, b, h => rfl
  | v :: r, o, w, b, h => (heap_setCells_ne g r (o + 1) (w.setCell ⟨g, o, none⟩ v) b h).trans (heap_setCell_other w ⟨g, o, none⟩ b v h)
theorem BX.setCells {g b : Nat} {w w1 : World} (h : BX g b w w1) (hne : b ≠ g) (o : Nat) (vs : List Value) : BX g b w (w1.setCells g o vs) := ⟨below_setCells (Nat.le_refl _) _ _ _ h.lo, (heap_setCells_ne g vs o w1 b hne).trans h.k⟩
def DelPost (g cap b : Nat) (p : St → Bool) (d : Array St) (w : World) (e : Ending) (w' : World) : Prop :=
  ∃ d' : Array St, e = .returned (.slice (some ⟨g, 0, none⟩) d'.size cap) ∧ d'.toList = d.toList.filter p ∧ HoldsK St.cells 9 w' g 0 d' ∧ BX g b w w' ∧ w.heap.size ≤ w'.heap.size
theorem del_none {g cap b : Nat} {p : St → Bool} {d : Array St} {w w' : World} (hH : HoldsK St.cells 9 w g 0 d) (hg : g < w.heap.size) (hlb : b < w.heap.size) (hb : Below w.heap.size w w') (h : d.toList.all p = true) : DelPost g cap b p d w (.returned (.slice (some ⟨g, 0, none⟩) d.size cap)) w' := by
  refine ⟨d, rfl, ?_, holds_block hH (hb.block g hg), (BX.refl g b w).below hg hlb hb, hb.size⟩
  symm
  rw [List.filter_eq_self]
  intro x hx
  exact List.all_eq_true.1 h x hx
theorem holds_take {w : World} {g k : Nat} {d : Array St} (h : HoldsK St.cells 9 w g 0 d) (hk : k ≤ d.size) : HoldsK St.cells 9 w g 0 (d.toList.take k).toArray :=
  holds_low h _ (by rw [List.length_take, Array.length_toList]; omega) fun j hj => by
    rw [List.length_take, Array.length_toList] at hj
    rw [getElem!_pos d j (by omega)]; simp
theorem del_end {g cap kk b : Nat} {p : St → Bool} {d dk : Array St} {w wr : World} (hH : HoldsK St.cells 9 wr g 0 dk) (hb : BX g b w wr) (hne : b ≠ g) (hs : w.heap.size ≤ wr.heap.size) (hI : DelInv p d d.size kk dk) : DelPost g cap b p d w (.returned (.slice (some ⟨g, 0, none⟩) kk cap)) (wr.setCells g (kk * 9) (clr (d.size - kk))) := by
  have hlt := hI.lt
  have hsz := hI.size
  have hz : (dk.toList.take kk).toArray.size = kk := by simp; omega
  refine ⟨(dk.toList.take kk).toArray, by rw [hz], ?_, SynD8.holds_out (holds_take hH (by omega)) (by rw [hz]; exact Nat.le_refl _) _, hb.setCells hne _ _, by rw [size_setCells]; exact hs⟩
  rw [hI.low, show d.toList.take d.size = d.toList from List.take_of_length_le (by simp)]
theorem start_of {p : St → Bool} {d : Array St} {k : Nat} (hk : k < d.toList.length) (hall : ∀ j, (hj : j < k) → p (d.toList[j]'(by omega)) = true) (hno : p d.toList[k] = false) : DelInv p d (k + 1) k d := by
  have hk2 : k < d.size := by simpa using hk
  refine DelInv.start hk2 (fun j hj => ?_) ?_
  · have := hall j hj
    rw [getElem!_pos d j (by omega)]
    simpa using this
  · rw [getElem!_pos d k hk2]
    simpa using hno
theorem sg_of_holds {w : World} {g : Nat} {d : Array St} (h : HoldsK St.cells 9 w g 0 d) : SG w (some ⟨g, 0, none⟩) d.toList :=
  SG.of_row (StRow.of_holds h _ (by simp) fun j hj => by rw [getElem!_pos d j (by simpa using hj)]; simp)
set_option maxHeartbeats 2000000 in
set_option maxRecDepth 100000 in
theorem del (g cap b : Nat) (d : Array St) (p : St → Bool) (w : World) (hs : d.size ≤ 100000) (hcap : d.size ≤ cap) (hcm : cap ≤ maxLen) (hH : HoldsK St.cells 9 w g 0 d) (hg : g < w.heap.size) (hlb : b < w.heap.size) (hne : b ≠ g) (hf : ∀ s ∈ d.toList, s.fit) (hn : ∀ w', BX g b w w' → w.heap.size ≤ w'.heap.size → NotAt w' b p) :
    Calls Try.prog 63 #[.slice (some ⟨g, 0, none⟩) d.size cap, .func (.func 64) #[] #[.pointer (some ⟨b, 0, none⟩)]] w (DelPost g cap b p d w) := by
  have HI : Hid (Calls Try.prog 73 #[.slice (some ⟨g, 0, none⟩) d.size cap, .func (.func 64) #[] #[.pointer (some ⟨b, 0, none⟩)]] w (IdxPost p d.toList w)) := Lib.hid (idx (some ⟨g, 0, none⟩) cap b p d.toList w (by simpa using hs) (sg_of_holds hH) hf (fun w' hb => hn w' ((BX.refl g b w).below hg hlb hb) hb.size))
  have HF := Lib.hid hn
  have HFT : Hid (∀ j, j < d.size → St.fit d[j]!) := Lib.hid (fun j hj => by
    rw [getElem!_pos d j hj]
    exact hf _ (by simp))
  have HH := Lib.hid hH
  have HN := Lib.hid (fun w' hb h => del_none (cap := cap) (b := b) (p := p) (w' := w') hH hg hlb hb h)
  clear hH hn hf
  have hm : maxLen = 9223372036854775807 := rfl
  go_enter Try.func63, Try.ntmps63
  go_wp2_with fail
  refine HI.out.mono ?_
  rintro e w1 ⟨hb1, ⟨rfl, hall⟩ | ⟨k, hk, rfl, hall, hno⟩⟩
  · have HE := Lib.hid (HN.out _ hb1 hall)
    clear hall hb1 HI HF HN
    go_wp2_with fail
    go_ret
    exact HE.out
  · have HS := Lib.hid (start_of hk hall hno)
    have HHK := Lib.hid (holds_block HH.out (hb1.block g hg))
    have HB1 := Lib.hid ((BX.refl g b w).below hg hlb hb1)
    have hz1 := hb1.size
    have hk2 : k < d.size := by simpa using hk
    clear hall hno hb1 HI HN hk
    have d1 : ((k : Int) == -1) = false := by first | (simp; done) | (simp; omega)
    go_wp2_with fail
    go_loopw [5, 6] (fun s5 s6 wr => ∃ (kk m : Nat) (dk : Array St), s5 = .int .i64 kk ∧ s6 = .int .i64 m ∧ m ≤ d.size ∧ Hid (HoldsK St.cells 9 wr g 0 dk) ∧ Hid (BX g b w wr) ∧ w.heap.size ≤ wr.heap.size ∧ Hid (DelInv p d m kk dk)) (fun _ s6 _ => d.size - (intOf s6).toNat)
    case atStart => exact ⟨k, k + 1, d, rfl, rfl, by omega, HHK, HB1, hz1, HS⟩
    case round =>
      obtain ⟨kk, m, dk, rfl, rfl, hm2, hHk, hbel, hszr, hI⟩ := hrel
      have hkk := hI.out.lt
      have hds := hI.out.size
      by_cases hlt : m < d.size
      · have e1 : decide ((m : Int) < d.size) = true := by simp; omega
        have c1 := nine hHk.out m (by omega)
        rw [hI.out.high m (Nat.le_refl _)] at c1
        have HSK := Lib.hid (fun h => hI.out.skip hlt h)
        have HKP := Lib.hid (fun h => hI.out.keep hlt h)
        have hfx := HFT.out m hlt
        have HFk := Lib.hid (fun w' hb hz => HF.out w' hb hz d[m]! hfx)
        generalize d[m]! = x at *
        obtain ⟨k1, ⟨ho, hn⟩, wh, ⟨ao, an⟩, ⟨bo, bn⟩, v1⟩ := x
        have a0 := c1 0 _ rfl
        have a1 := c1 1 _ rfl
        have a2 := c1 2 _ rfl
        have a3 := c1 3 _ rfl
        have a4 := c1 4 _ rfl
        have a5 := c1 5 _ rfl
        have a6 := c1 6 _ rfl
        have a7 := c1 7 _ rfl
        have a8 := c1 8 _ rfl
        rw [Nat.add_zero] at a0
        have q0 : (0 : Int) ≤ m := by omega
        have q1 : (m : Int) < d.size := by omega
        have q6 : (0 : Int) ≤ kk := by omega
        have q7 : (kk : Int) < d.size := by omega
        have hgr : g < wr.heap.size := by omega
        have hbr : b < wr.heap.size := by omega
        have HBA := Lib.hid (hbel.out.below hgr hbr (below_alloc wr (.cells #[.int .i64 k1, .string ho, .string hn, .string wh, .string ao, .string an, .string bo, .string bn, .string v1] 26)))
        have HHA := Lib.hid (holds_block hHk.out ((below_alloc wr (.cells #[.int .i64 k1, .string ho, .string hn, .string wh, .string ao, .string an, .string bo, .string bn, .string v1] 26)).block g hgr))
        have HBX := Lib.hid (heap_alloc_new wr (.cells #[.int .i64 k1, .string ho, .string hn, .string wh, .string ao, .string an, .string bo, .string bn, .string v1] 26))
        have HCL := Lib.hid (HFk.out _ HBA.out (by simp; omega))
        unfold St.val at HCL
        simp only at HCL
        clear c1 HF HFk HHK HB1 HS hfx
        go_upto_region 8 with fail
        have hszA : (wr.alloc (.cells #[.int .i64 k1, .string ho, .string hn, .string wh, .string ao, .string an, .string bo, .string bn, .string v1] 26)).heap.size = wr.heap.size + 1 := by simp
        generalize wr.alloc (.cells #[.int .i64 k1, .string ho, .string hn, .string wh, .string ao, .string an, .string bo, .string bn, .string v1] 26) = wa at *
        have cb := fun o => Lib.cell_of_heap HBX.out o
        clear a0 a1 a2 a3 a4 a5 a6 a7 a8
        cases hpx : p ⟨k1, ⟨ho, hn⟩, wh, ⟨ao, an⟩, ⟨bo, bn⟩, v1⟩
        · rw [hpx] at HCL
          have HI2 := Lib.hid (HSK.out hpx)
          clear hpx HSK HKP
          go_wp2_with fail
          refine HCL.out.mono ?_
          rintro e w2 ⟨rfl, hb2⟩
          have HH2 := Lib.hid (holds_block HHA.out (hb2.block g (by omega)))
          have HB2 := Lib.hid (HBA.out.below (by omega) (by omega) hb2)
          have hz2 := hb2.size
          clear hb2 cb HCL
          go_wp2_with fail
          go_roundw
          case rel => exact ⟨kk, m + 1, dk, rfl, by go_num, by omega, HH2, HB2, by omega, HI2⟩
          case measure => simp [intOf]; omega
        · rw [hpx] at HCL
          have HI2 := Lib.hid (HKP.out hpx)
          clear hpx HSK HKP
          go_wp2_with fail
          refine HCL.out.mono ?_
          rintro e w2 ⟨rfl, hb2⟩
          have HH2 := Lib.hid (holds_block HHA.out (hb2.block g (by omega)))
          have HB2 := Lib.hid (HBA.out.below (by omega) (by omega) hb2)
          have hz2 := hb2.size
          have cb2 := fun o => Lib.cell_of_heap ((hb2.block wr.heap.size (by omega)).trans HBX.out) o
          have hth := Lib.hid (there_of HH2.out kk (by omega))
          clear hb2 cb HCL
          go_wp2_with ((with_reducible refine wpList_store_mid (op := ⟨none, .store 26 (.tmp 33) (.tmp 32), _, _, _, none⟩) ?_ 26 (.tmp 33) (.tmp 32) ?_ g (kk * 9) (St.cells ⟨k1, ⟨ho, hn⟩, wh, ⟨ao, an⟩, ⟨bo, bn⟩, v1⟩).toArray ?_ ?_ ?_ ?_ ?_ ?_); (rfl); (rfl); (simp [Act.eval]); (simp [Act.eval, St.cells]); (exact hth.out); (exact infoSz); (exact all_oneCell_toArray (stcell_one _)))
          go_roundw
          case rel =>
            refine ⟨kk + 1, m + 1, dk.setIfInBounds kk ⟨k1, ⟨ho, hn⟩, wh, ⟨ao, an⟩, ⟨bo, bn⟩, v1⟩, by go_num, by go_num, by omega, Lib.hid ?_, Lib.hid (HB2.out.setCells hne _ _), by rw [size_setCells]; omega, HI2⟩
            exact store0 HH2.out kk (by omega) _
          case measure => simp [intOf]; omega
      · have e1 : decide ((m : Int) < d.size) = false := by simp; omega
        obtain rfl : m = d.size := by omega
        have hfin := Lib.hid (del_end (cap := cap) hHk.out hbel.out hne hszr hI.out)
        have hth := Lib.hid (there_all hHk.out kk (by omega))
        rw [hds] at hth
        clear hHk hbel hI HF
        go_wp2_with ((with_reducible refine wpList_clear_run (o := ⟨none, .call { callee := .builtin .clear, args := #[.tmp 38], argTypes := #[22] }, _, _, _, none⟩) _ ?_ (.tmp 38) 22 ?_ (.slice (some ⟨g, kk * 9, none⟩) (d.size - kk) (cap - kk)) ?_ (.tuple #[]) (wr.setCells g (kk * 9) (clr (d.size - kk))) ?_ ?_); (rfl); (rfl); (simp [Act.eval]); (exact run_clear9 _ g (kk * 9) (d.size - kk) (cap - kk) (by omega) hth.out _))
        go_ret
        exact hfin.out
set_option maxHeartbeats 1000000 in
theorem idxNone (f : Value) (w : World) : Calls Try.prog 73 #[.slice none 0 0, f] w fun e w' => e = .returned (.int .i64 (-1)) ∧ w' = w := by
  go_enter Try.func73, Try.ntmps73
  go_wp2_with fail
  go_loop [8] (fun i => i = .int .i64 0) (fun i => 0)
  case atStart => rfl
  case round =>
    subst hrel
    go_wp2_with fail
    go_ret
    exact ⟨rfl, rfl⟩
theorem delNone (f : Value) (w : World) : Calls Try.prog 63 #[.slice none 0 0, f] w fun e w' => e = .returned (.slice none 0 0) ∧ w' = w := by
  have HI := Lib.hid (idxNone f w)
  go_enter Try.func63, Try.ntmps63
  go_wp2_with fail
  refine HI.out.mono ?_
  rintro e w1 ⟨rfl, rfl⟩
  go_wp2_with fail
  go_ret
  exact ⟨rfl, rfl⟩
theorem sort_fit {L : List St} (hf : ∀ s ∈ L, s.fit) : ∀ s ∈ sortL cmpS [] L, s.fit := fun s hs => by
  rw [sortL_mem] at hs
  rcases hs with h | h
  · cases h
  · exact hf s h
set_option maxRecDepth 100000 in
theorem pick (A : Option Addr) (ca : Nat) (L : List St) (v : Value) (p : St → Bool) (w : World) (hL : L.length ≤ 1000) (hA : SG w A L) (hf : ∀ s ∈ L, s.fit) (hs : Such w.heap.size w v p) :
    Calls Try.prog 42 #[.slice A L.length ca, v] w (OwnPost ((sortL cmpS [] L).filter p) w) := by
  obtain ⟨F, caps, hv, _⟩ := id hs
  subst hv
  have HG := Lib.hid (gather1 A ca L w hL hA)
  have HS := Lib.hid hs
  have HF := Lib.hid (sort_fit hf)
  have hl := SynDA.sortL_len (c := cmpS) L []
  simp only [List.length_nil] at hl
  generalize sortL cmpS [] L = M at *
  clear hA hf hs
  go_enter Try.func42, Try.ntmps42
  go_wp2_with fail
  refine HG.out.mono ?_
  intro e w1 hp
  obtain ⟨v1, rfl, ho, hb1⟩ := hp
  have HB1 := Lib.hid hb1
  have HN := Lib.hid (not_ F caps w1)
  clear HG
  rcases ho with ⟨rfl, rfl⟩ | ⟨g, cap, d, rfl, rfl, h2, h3, h4, h5, h6⟩
  · clear hb1
    go_wp2_with fail
    refine HN.out.mono ?_
    rintro e w2 ⟨rfl, rfl⟩
    go_wp2_with fail
    refine (delNone _ _).mono ?_
    rintro e w3 ⟨rfl, rfl⟩
    go_wp2_with fail
    go_ret
    exact ⟨_, rfl, .inl ⟨rfl, rfl⟩, nx HB1.out (below_alloc _ _)⟩
  · have hbX := below_alloc w1 (.cells #[.func (.func F) #[] caps] 28)
    have hcl := heap_alloc_new w1 (.cells #[.func (.func F) #[] caps] 28)
    have hsz : (w1.alloc (.cells #[.func (.func F) #[] caps] 28)).heap.size = w1.heap.size + 1 := by simp
    have hds : d.size ≤ L.length := by simpa using hl
    have HD := Lib.hid (del g cap w1.heap.size d p (w1.alloc (.cells #[.func (.func F) #[] caps] 28)) (by omega) h2 h3 (holds_block h6 (hbX.block g h5)) (by omega) (by omega) (by omega) HF.out (fun w' hx hz => not1 (HS.out.later ((hb1.trans (hbX.mono hb1.size)).trans (hx.lo.mono h4))) (by have := hb1.size; omega) w1.heap.size (Lib.cell_of_heap (hx.k.trans hcl) 0)))
    have HB2 := Lib.hid (hb1.trans (hbX.mono hb1.size))
    have HX := Lib.hid (And.intro h2 (And.intro h3 (And.intro h4 h5)))
    clear hb1 hbX hcl h2 h3 h4 h5 h6 hl hds
    go_wp2_with fail
    refine HN.out.mono ?_
    rintro e w2 ⟨rfl, rfl⟩
    go_wp2_with fail
    refine HD.out.mono ?_
    rintro e w3 ⟨d', rfl, hd', hH', hx, hz3⟩
    have HE : Hid (OwnPost (d.toList.filter p) w (.returned (.slice (some ⟨g, 0, none⟩) d'.size cap)) w3) := Lib.hid (by
      obtain ⟨k2, k3, k4, k5⟩ := HX.out
      have hle : d'.size ≤ d.size := by
        rw [← Array.length_toList, ← Array.length_toList, hd']
        exact List.length_filter_le _ _
      exact ⟨_, rfl, .inr ⟨g, cap, d', rfl, hd', by omega, k3, k4, by omega, hH'⟩, HB2.out.trans (hx.lo.mono k4)⟩)
    clear hd' hH' hx hz3 HD HN
    go_wp2_with fail
    go_ret
    exact HE.out
end Go.Proofs.Ytpjacngbkohmdaa.StD
/- slices.BinarySearchFunc at statements that rise, by contract; among. -/
namespace Go.Proofs.Ytpjacngbkohmdaa.StE
set_option linter.unusedVariables false
set_option linter.unusedSimpArgs false
open Go.Shelf Go.RowKit Go.Sort Go.Lib Go.Proofs Go.Proofs.Ytpjacngbkohmdaa.Plain Go.Proofs.Ytpjacngbkohmdaa.SynP Go.Proofs.Ytpjacngbkohmdaa.Grown Go.Proofs.Ytpjacngbkohmdaa.SynC Go.Proofs.Ytpjacngbkohmdaa.SynD Go.Proofs.Ytpjacngbkohmdaa.SynD2 Go.Proofs.Ytpjacngbkohmdaa.SynD3 Go.Proofs.Ytpjacngbkohmdaa.SynD7 Go.Proofs.Ytpjacngbkohmdaa.SynD8 Go.Proofs.Ytpjacngbkohmdaa.PolE Go.Proofs.Ytpjacngbkohmdaa.StA Go.Proofs.Ytpjacngbkohmdaa.StB Go.Proofs.Ytpjacngbkohmdaa.StC Go.Proofs.Ytpjacngbkohmdaa.StD
set_option linter.unusedVariables false
set_option linter.unusedSimpArgs false
theorem rise {T : List St} (h : Strict cmpS T) {i j : Nat} (hij : i < j) (hj : j < T.length) : cmpS (T[i]'(by omega)) T[j] < 0 := (List.pairwise_iff_getElem.1 h) i j (by omega) hj hij
/-- What is below the half is below, what is not below it is not. -/
theorem low_step {T : List St} {x : St} (hS : Strict cmpS T) {h : Nat} (hh : h < T.length) (hx : cmpS T[h] x < 0) : ∀ k, k < h + 1 → ∀ hk : k < T.length, cmpS T[k] x < 0 := fun k hk hk2 => by
  rcases Nat.lt_or_ge k h with h' | h'
  · exact tri_S.thru _ _ _ (rise hS h' hh) hx
  · have : k = h := by omega
    subst this; exact hx
theorem high_step {T : List St} {x : St} (hS : Strict cmpS T) {h : Nat} (hh : h < T.length) (hx : ¬ cmpS T[h] x < 0) : ∀ k, h ≤ k → ∀ hk : k < T.length, 0 ≤ cmpS T[k] x := fun k hk hk2 => Int.not_lt.1 fun hlt => by
  rcases Nat.lt_or_ge h k with h' | h'
  · exact hx (tri_S.thru _ _ _ (rise hS h' hk2) hlt)
  · have : k = h := by omega
    subst this; exact hx hlt
theorem found_iff {T : List St} {x : St} {i : Nat} (hlo : ∀ k, k < i → ∀ hk : k < T.length, cmpS T[k] x < 0) (hhi : ∀ k, i ≤ k → ∀ hk : k < T.length, 0 ≤ cmpS T[k] x) (hS : Strict cmpS T) : x ∈ T ↔ ∃ h : i < T.length, cmpS T[i] x = 0 := by
  constructor
  · intro hx
    obtain ⟨j, hj, rfl⟩ := List.getElem_of_mem hx
    have h0 : cmpS T[j] T[j] = 0 := by
      exact tri_S.same T[j]
    rcases Nat.lt_or_ge j i with h | h
    · exact absurd (hlo j h hj) (by omega)
    · rcases Nat.lt_or_ge i j with h' | h'
      · have hi : i < T.length := by omega
        exact absurd (rise hS h' hj) (Int.not_lt.2 (hhi i (Nat.le_refl _) hi))
      · have : i = j := by omega
        subst this
        exact ⟨hj, h0⟩
  · rintro ⟨h, e⟩
    rw [← eqSt _ _ e]
    exact List.getElem_mem h
theorem half (i j : Nat) (h : i < j) (hj : j ≤ 100000) : IntKind.i64.wrap ((i : Int) + (j : Int)) = ((i + j : Nat) : Int) ∧ i ≤ (i + j) / 2 ∧ (i + j) / 2 < j := by
  rw [IntKind.wrap_i64]
  omega
set_option maxHeartbeats 2000000 in
set_option maxRecDepth 100000 in
theorem bin (A : Option Addr) (ca : Nat) (T : List St) (x : St) (w : World) (hT : T.length ≤ 100000) (hA : SG w A T) (hS : Strict cmpS T) :
    Calls Try.prog 66 #[.slice A T.length ca, x.val, .func (.func 67) #[] #[]] w fun e w' => (∃ k : Int, e = .returned (.tuple #[.int .i64 k, .bool (decide (x ∈ T))])) ∧ Below w.heap.size w w' := by
  have HFI : Hid (∀ i, i ≤ T.length → (∀ k, k < i → ∀ hk : k < T.length, cmpS T[k] x < 0) → (∀ k, i ≤ k → ∀ hk : k < T.length, 0 ≤ cmpS T[k] x) → (x ∈ T ↔ ∃ h : i < T.length, cmpS T[i] x = 0)) := Lib.hid (fun i _ h1 h2 => found_iff h1 h2 hS)
  have HLO : Hid (∀ h, (hh : h < T.length) → cmpS T[h] x < 0 → ∀ k, k < h + 1 → ∀ hk : k < T.length, cmpS T[k] x < 0) := Lib.hid (fun h hh hx => low_step hS hh hx)
  have HHI : Hid (∀ h, (hh : h < T.length) → ¬ cmpS T[h] x < 0 → ∀ k, h ≤ k → ∀ hk : k < T.length, 0 ≤ cmpS T[k] x) := Lib.hid (fun h hh hx => high_step hS hh hx)
  obtain ⟨k1, ⟨ho, hn⟩, wh, ⟨ao, an⟩, ⟨bo, bn⟩, v1⟩ := x
  have hbX := below_alloc w (.cells #[.int .i64 k1, .string ho, .string hn, .string wh, .string ao, .string an, .string bo, .string bn, .string v1] 26)
  have HB0 := Lib.hid hbX
  have HA := Lib.hid (fun w' (hb : Below (w.alloc (.cells #[.int .i64 k1, .string ho, .string hn, .string wh, .string ao, .string an, .string bo, .string bn, .string v1] 26)).heap.size (w.alloc (.cells #[.int .i64 k1, .string ho, .string hn, .string wh, .string ao, .string an, .string bo, .string bn, .string v1] 26)) w') => hA.below (nx hbX hb))
  have HX := Lib.hid (heap_alloc_new w (.cells #[.int .i64 k1, .string ho, .string hn, .string wh, .string ao, .string an, .string bo, .string bn, .string v1] 26))
  clear hbX hA hS
  have hm : Try.prog.follows .mixedOrders = true := by kernel_rfl
  show Calls _ _ #[_, .agg #[.int .i64 k1, .string ho, .string hn, .string wh, .string ao, .string an, .string bo, .string bn, .string v1], _] _ _
  go_enter Try.func66, Try.ntmps66
  go_upto_region 1 with fail
  obtain ⟨bx, hbx⟩ : ∃ bx, w.heap.size = bx := ⟨_, rfl⟩
  rw [hbx] at HX
  simp only [hbx] at ⊢
  generalize w.alloc (.cells #[.int .i64 k1, .string ho, .string hn, .string wh, .string ao, .string an, .string bo, .string bn, .string v1] 26) = w0 at *
  have HC := Lib.hid (fun w' (hb : Below w0.heap.size w0 w') (o : Nat) => Lib.cell_of_heap ((hb.block bx (Array.getElem?_eq_some_iff.1 HX.out).1).trans HX.out) o)
  clear hbx
  go_wp2_with fail
  go_loopw [9, 10] (fun s9 s10 wr => ∃ (i j m : Nat) (os : Array Obj), s9 = .int .i64 i ∧ s10 = .int .i64 j ∧ i ≤ j ∧ j ≤ T.length ∧ wr = grow (w0.drewN m) os ∧ Hid (∀ k, k < i → ∀ hk : k < T.length, cmpS T[k] ⟨k1, ⟨ho, hn⟩, wh, ⟨ao, an⟩, ⟨bo, bn⟩, v1⟩ < 0) ∧ Hid (∀ k, j ≤ k → ∀ hk : k < T.length, 0 ≤ cmpS T[k] ⟨k1, ⟨ho, hn⟩, wh, ⟨ao, an⟩, ⟨bo, bn⟩, v1⟩)) (fun s9 s10 _ => (intOf s10 - intOf s9).toNat)
  case atStart => exact ⟨0, T.length, 0, #[], rfl, rfl, by omega, Nat.le_refl _, by rw [grow_empty]; rfl, Lib.hid (fun k hk => by omega), Lib.hid (fun k hk hk2 => by omega)⟩
  case round =>
    obtain ⟨i, j, m, os, rfl, rfl, hij, hj, rfl, hlo, hhi⟩ := hrel
    have hG := Grew.mk w0 m os
    have HGb := Lib.hid hG.below
    have HGm := Lib.hid (⟨m, os, rfl⟩ : ∃ m' os', grow (w0.drewN m) os = grow (w0.drewN m') os')
    have cb := HC.out _ hG.below
    generalize grow (w0.drewN m) os = W at *
    clear hG
    by_cases hlt : i < j
    · have e1 : decide ((i : Int) < (j : Int)) = true := by simp; omega
      obtain ⟨hw, hh1, hh2⟩ := half i j hlt (by omega)
      obtain ⟨h, hhe⟩ : ∃ h, (i + j) / 2 = h := ⟨_, rfl⟩
      rw [hhe] at hh1 hh2
      obtain ⟨g1, o1, rfl, hg1, hc⟩ := HA.out _ HGb.out (by omega)
      have hhl : h < T.length := by omega
      obtain ⟨a0, a1, a2, a3, a4, a5, a6, a7, a8⟩ := hc h hhl
      have q0 : (0 : Int) ≤ h := by omega
      have q1 : (h : Int) < T.length := by omega
      clear hc
      have hbW := Nat.lt_of_lt_of_le (Array.getElem?_eq_some_iff.1 HX.out).1 HGb.out.size
      have HOr := Lib.hid (fun w' => Syn3.order (T[h]'hhl) ⟨k1, ⟨ho, hn⟩, wh, ⟨ao, an⟩, ⟨bo, bn⟩, v1⟩ w')
      have hdiv : ((i : Int) + (j : Int)) / 2 = (h : Int) := by omega
      unfold St.val at HOr
      simp only at HOr
      go_upto_region 5 with fail
      have c0 := cb 0
      have c1 := cb 1
      have c2 := cb 2
      have c3 := cb 3
      have c4 := cb 4
      have c5 := cb 5
      have c6 := cb 6
      have c7 := cb 7
      have c8 := cb 8
      simp only [List.getElem?_toArray, List.getElem?_cons_zero, List.getElem?_cons_succ] at c0 c1 c2 c3 c4 c5 c6 c7 c8
      clear cb hdiv hw
      by_cases hv : cmpS T[h] ⟨k1, ⟨ho, hn⟩, wh, ⟨ao, an⟩, ⟨bo, bn⟩, v1⟩ < 0
      · have HN := Lib.hid (HLO.out h (by omega) hv)
        have e2 : decide (cmpS T[h] ⟨k1, ⟨ho, hn⟩, wh, ⟨ao, an⟩, ⟨bo, bn⟩, v1⟩ < 0) = true := decide_eq_true hv
        generalize cmpS T[h] ⟨k1, ⟨ho, hn⟩, wh, ⟨ao, an⟩, ⟨bo, bn⟩, v1⟩ = cv at *
        clear hv hlo HHI HLO HFI
        have gC := grow_cell
        go_quiet_grown ((go_at_call 67; exact grewCall (HOr.out _)))
        clear gC
        go_wp2_with fail
        go_roundw
        case rel =>
          obtain ⟨m', os', hGm⟩ := HGm.out
          exact ⟨h + 1, j, m' + nq, os' ++ osq, by go_num, rfl, by omega, hj, by rw [hGm]; show grow (grow ((w0.drewN m').drewN nq) os') osq = _; rw [grow_grow, World.drewN_drewN], HN, hhi⟩
        case measure => simp [intOf]; omega
      · have HN := Lib.hid (HHI.out h (by omega) (by omega))
        have e2 : decide (cmpS T[h] ⟨k1, ⟨ho, hn⟩, wh, ⟨ao, an⟩, ⟨bo, bn⟩, v1⟩ < 0) = false := decide_eq_false hv
        generalize cmpS T[h] ⟨k1, ⟨ho, hn⟩, wh, ⟨ao, an⟩, ⟨bo, bn⟩, v1⟩ = cv at *
        clear hv hhi HHI HLO HFI
        have gC := grow_cell
        go_quiet_grown ((go_at_call 67; exact grewCall (HOr.out _)))
        clear gC
        go_wp2_with fail
        go_roundw
        case rel =>
          obtain ⟨m', os', hGm⟩ := HGm.out
          exact ⟨i, h, m' + nq, os' ++ osq, rfl, rfl, by omega, by omega, by rw [hGm]; show grow (grow ((w0.drewN m').drewN nq) os') osq = _; rw [grow_grow, World.drewN_drewN], hlo, HN⟩
        case measure => simp [intOf]; omega
    · have e1 : decide ((i : Int) < (j : Int)) = false := by simp; omega
      obtain rfl : i = j := by omega
      have hfi := HFI.out i hj hlo.out hhi.out
      have HB := Lib.hid (nx HB0.out HGb.out)
      have c0 := cb 0
      have c1 := cb 1
      have c2 := cb 2
      have c3 := cb 3
      have c4 := cb 4
      have c5 := cb 5
      have c6 := cb 6
      have c7 := cb 7
      have c8 := cb 8
      simp only [List.getElem?_toArray, List.getElem?_cons_zero, List.getElem?_cons_succ] at c0 c1 c2 c3 c4 c5 c6 c7 c8
      clear cb hlt hlo hhi HHI HLO HFI
      by_cases hin : i < T.length
      · have e2 : decide ((i : Int) < (T.length : Int)) = true := by simp; omega
        obtain ⟨g1, o1, rfl, hg1, hc⟩ := HA.out _ HGb.out (by omega)
        obtain ⟨a0, a1, a2, a3, a4, a5, a6, a7, a8⟩ := hc i hin
        have q0 : (0 : Int) ≤ i := by omega
        have q1 : (i : Int) < T.length := by omega
        have hbW := Nat.lt_of_lt_of_le (Array.getElem?_eq_some_iff.1 HX.out).1 HGb.out.size
        have HOr := Lib.hid (fun w' => Syn3.order T[i] ⟨k1, ⟨ho, hn⟩, wh, ⟨ao, an⟩, ⟨bo, bn⟩, v1⟩ w')
        unfold St.val at HOr
        simp only at HOr
        have HR : Hid (decide (⟨k1, ⟨ho, hn⟩, wh, ⟨ao, an⟩, ⟨bo, bn⟩, v1⟩ ∈ T) = (cmpS T[i] ⟨k1, ⟨ho, hn⟩, wh, ⟨ao, an⟩, ⟨bo, bn⟩, v1⟩ == 0)) := Lib.hid (by
          rw [Bool.eq_iff_iff, decide_eq_true_iff, hfi, beq_iff_eq]
          exact ⟨fun ⟨_, e⟩ => e, fun e => ⟨hin, e⟩⟩)
        generalize cmpS T[i] ⟨k1, ⟨ho, hn⟩, wh, ⟨ao, an⟩, ⟨bo, bn⟩, v1⟩ = cv at *
        clear hc hfi
        go_upto_region 8 with fail
        have gC := grow_cell
        go_quiet_grown ((go_at_call 67; exact grewCall (HOr.out _)))
        clear gC
        go_wp2_with fail
        refine bodyPost_ret (v := .tuple #[.int .i64 i, .bool (cv == 0)]) (by simp [results, Try.results66, go_sem]) rfl ⟨⟨i, by rw [HR.out]⟩, nx HB.out (Grew.mk W nq osq).below⟩
      · have e2 : decide ((i : Int) < (T.length : Int)) = false := by simp; omega
        have HR : Hid (decide (⟨k1, ⟨ho, hn⟩, wh, ⟨ao, an⟩, ⟨bo, bn⟩, v1⟩ ∈ T) = false) := Lib.hid (by
          rw [decide_eq_false_iff_not, hfi]
          rintro ⟨h, _⟩
          exact hin h)
        clear hfi
        go_upto_region 8 with fail
        go_quiet (fail)
        go_wp2_with fail
        refine bodyPost_ret (v := .tuple #[.int .i64 i, .bool false]) (by simp [results, Try.results66, go_sem]) rfl ⟨⟨i, by rw [HR.out]⟩, nx HB.out (below_drewN (Below.refl _ _) _)⟩
end Go.Proofs.Ytpjacngbkohmdaa.StE
/- state: among, Is, Has, Union, Minus, About, Same, by contract. -/
namespace Go.Proofs.Ytpjacngbkohmdaa.StF
set_option linter.unusedVariables false
set_option linter.unusedSimpArgs false
open Go.Shelf Go.RowKit Go.Sort Go.Lib Go.Proofs Go.Proofs.Ytpjacngbkohmdaa.Plain Go.Proofs.Ytpjacngbkohmdaa.SynP Go.Proofs.Ytpjacngbkohmdaa.Grown Go.Proofs.Ytpjacngbkohmdaa.SynC Go.Proofs.Ytpjacngbkohmdaa.SynD Go.Proofs.Ytpjacngbkohmdaa.SynD2 Go.Proofs.Ytpjacngbkohmdaa.SynD3 Go.Proofs.Ytpjacngbkohmdaa.SynD7 Go.Proofs.Ytpjacngbkohmdaa.SynD8 Go.Proofs.Ytpjacngbkohmdaa.PolE Go.Proofs.Ytpjacngbkohmdaa.StA Go.Proofs.Ytpjacngbkohmdaa.StB Go.Proofs.Ytpjacngbkohmdaa.StC Go.Proofs.Ytpjacngbkohmdaa.StD Go.Proofs.Ytpjacngbkohmdaa.StE
set_option linter.unusedVariables false
set_option linter.unusedSimpArgs false
theorem sort_strict (L : List St) : Strict cmpS (sortL cmpS [] L) := sortL_strict tri_S eqSt L [] List.Pairwise.nil
theorem sort_mem {L : List St} {s : St} : s ∈ sortL cmpS [] L ↔ s ∈ L := by rw [sortL_mem]; simp
theorem sort_len (L : List St) : (sortL cmpS [] L).length ≤ L.length := by
  have := SynDA.sortL_len (c := cmpS) L []
  simpa using this
set_option maxRecDepth 100000 in
theorem among1 (A : Option Addr) (ca : Nat) (T : List St) (b : Nat) (w : World) (hT : T.length ≤ 100000) (hA : SG w A T) (hS : Strict cmpS T) (hb : w.cell? ⟨b, 0, none⟩ = some (.slice A T.length ca)) (x : St) :
    Calls Try.prog 65 #[x.val, .pointer (some ⟨b, 0, none⟩)] w fun e w' => e = .returned (.bool (decide (x ∈ T))) ∧ Below w.heap.size w w' := by
  have lb := World.block_lt_of_cell? _ _ hb
  simp only at lb
  have HBi := Lib.hid (fun w' (h : SG w' A T) => bin A ca T x w' hT h hS)
  generalize decide (x ∈ T) = ans at *
  obtain ⟨k1, ⟨ho, hn⟩, wh, ⟨ao, an⟩, ⟨bo, bn⟩, v1⟩ := x
  unfold St.val at HBi ⊢
  simp only at HBi ⊢
  have hbX := below_alloc w (.cells #[.int .i64 k1, .string ho, .string hn, .string wh, .string ao, .string an, .string bo, .string bn, .string v1] 26)
  have c1 := (hbX.cell (p := ⟨b, 0, none⟩) lb).trans hb
  have c2 := fun o => Lib.cell_of_heap (heap_alloc_new w (.cells #[.int .i64 k1, .string ho, .string hn, .string wh, .string ao, .string an, .string bo, .string bn, .string v1] 26)) o
  have HB := Lib.hid hbX
  have HC := Lib.hid (HBi.out _ (hA.below hbX))
  clear hbX hb lb HBi hA hS
  go_enter Try.func65, Try.ntmps65
  go_wp2_with fail
  refine HC.out.mono ?_
  rintro e w1 ⟨⟨k, rfl⟩, hb1⟩
  have HB1 := Lib.hid (nx HB.out hb1)
  clear hb1 c1 c2 HC
  go_wp2_with fail
  go_ret
  exact ⟨rfl, HB1.out⟩
theorem enter_among : ∀ args w, (callFunc 65 args).run Try.prog w = .ok (.enter 65 args) w := enters_of Try.func65 (by kernel_rfl) rfl
def SuchPost (p : St → Bool) (w : World) (e : Ending) (w' : World) : Prop := ∃ v, e = .returned v ∧ Such w'.heap.size w' v p ∧ Below w.heap.size w w'
set_option maxRecDepth 100000 in
theorem among (A : Option Addr) (ca : Nat) (L : List St) (w : World) (hL : L.length ≤ 1000) (hA : SG w A L) : Calls Try.prog 44 #[.slice A L.length ca] w (SuchPost (fun s => decide (s ∈ L)) w) := by
  have HG := Lib.hid (gather1 A ca L w hL hA)
  have HL := Lib.hid (And.intro (sort_len L) (sort_strict L))
  have HM := Lib.hid (fun s => @sort_mem L s)
  generalize sortL cmpS [] L = M at *
  clear hA
  go_enter Try.func44, Try.ntmps44
  go_wp2_with fail
  refine HG.out.mono ?_
  intro e w1 hp
  obtain ⟨v, rfl, ho, hb1⟩ := hp
  obtain ⟨A1, c1, rfl, hS⟩ := ho.form
  have HE : Hid (SuchPost (fun s => decide (s ∈ L)) w (.returned (.func (.func 65) #[] #[.pointer (some ⟨w1.heap.size, 0, none⟩)])) (w1.alloc (.cells #[.slice A1 M.length c1] 22))) := Lib.hid (by
    have hbX := below_alloc w1 (.cells #[.slice A1 M.length c1] 22)
    have hcl := heap_alloc_new w1 (.cells #[.slice A1 M.length c1] 22)
    refine ⟨_, rfl, ⟨_, _, rfl, enter_among, fun w' hb s hs => ?_⟩, nx hb1 hbX⟩
    have h := among1 A1 c1 M w1.heap.size w' (by have := HL.out.1; omega) ((hS.below hbX).below hb) HL.out.2 (Lib.cell_of_heap ((hb.block w1.heap.size (by simp)).trans hcl) 0) s
    rw [show decide (s ∈ M) = decide (s ∈ L) by rw [Bool.eq_iff_iff, decide_eq_true_iff, decide_eq_true_iff]; exact HM.out s] at h
    exact h)
  clear ho hb1 hS HG HL HM
  go_wp2_with fail
  go_ret
  exact HE.out
theorem enter_right : ∀ args w, (callFunc 38 args).run Try.prog w = .ok (.enter 38 args) w := enters_of Try.func38 (by kernel_rfl) rfl
theorem such_right (w : World) : Such w.heap.size w (.func (.func 38) #[] #[]) St.right :=
  ⟨_, _, rfl, enter_right, fun w' hb s hs => (Syn7.right s w' hs).mono fun _ _ ⟨he, hg⟩ => ⟨he, hg.below⟩⟩
set_option maxRecDepth 100000 in
theorem same (A B : Option Addr) (ca cb : Nat) (L M : List St) (w : World) (hL : L.length ≤ 10000) (hM : M.length ≤ 10000) (hA : SG w A L) (hB : SG w B M) :
    Calls Try.prog 16 #[.slice A L.length ca, .slice B M.length cb] w fun e w' => e = .returned (.bool (decide (L = M))) ∧ Below w.heap.size w w' := by
  have HE := Lib.hid (PolJ.equalS A B ca cb L M w hL hM hA hB)
  generalize decide (L = M) = ans at *
  clear hA hB
  go_enter Try.func16, Try.ntmps16
  go_wp2_with fail
  refine HE.out.mono ?_
  rintro e w1 ⟨rfl, n, rfl⟩
  go_wp2_with fail
  go_ret
  exact ⟨rfl, below_drewN (Below.refl _ _) _⟩
set_option maxRecDepth 100000 in
theorem is_ (A : Option Addr) (ca : Nat) (L : List St) (w : World) (hL : L.length ≤ 1000) (hA : SG w A L) (hf : ∀ s ∈ L, s.fit) :
    Calls Try.prog 13 #[.slice A L.length ca] w fun e w' => e = .returned (.bool (L.all St.right && decide (L = sortL cmpS [] L))) ∧ Below w.heap.size w w' := by
  have HEa := Lib.hid (each A ca _ St.right L w (by omega) hA hf (Nat.le_refl _) (such_right w))
  have HG := Lib.hid (fun w' (h : SG w' A L) => gather1 A ca L w' hL h)
  have HS := Lib.hid (fun B cb w' (hA' : SG w' A L) (h : SG w' B (sortL cmpS [] L)) => same A B ca cb L (sortL cmpS [] L) w' (by omega) (by have := sort_len L; omega) hA' h)
  have HA := Lib.hid (fun w' (hb : Below w.heap.size w w') => hA.below hb)
  generalize decide (L = sortL cmpS [] L) = a2 at *
  generalize sortL cmpS [] L = M at *
  generalize L.all St.right = a1 at *
  clear hA hf
  go_enter Try.func13, Try.ntmps13
  go_wp2_with fail
  refine HEa.out.mono ?_
  rintro e w1 ⟨rfl, hb1⟩
  have HB1 := Lib.hid hb1
  have HG1 := Lib.hid (HG.out w1 (HA.out w1 hb1))
  clear hb1 HEa HG
  cases a1 with
  | false =>
    go_wp2_with fail
    go_ret
    exact ⟨rfl, HB1.out⟩
  | true =>
    go_wp2_with fail
    refine HG1.out.mono ?_
    intro e w2 hp
    obtain ⟨v, rfl, ho, hb2⟩ := hp
    obtain ⟨B, cb, rfl, hM⟩ := ho.form
    have HB2 := Lib.hid (nx HB1.out hb2)
    have HS1 := Lib.hid (HS.out B cb w2 (HA.out _ HB2.out) hM)
    clear ho hb2 hM HG1 HS
    go_wp2_with fail
    refine HS1.out.mono ?_
    rintro e w3 ⟨rfl, hb3⟩
    have HB3 := Lib.hid (nx HB2.out hb3)
    clear hb3 HS1
    go_wp2_with fail
    go_ret
    exact ⟨ret_bool (by first | rfl | simp), HB3.out⟩
set_option maxRecDepth 100000 in
theorem has_ (A : Option Addr) (ca : Nat) (L : List St) (x : St) (w : World) (hL : L.length ≤ 10000) (hA : SG w A L) :
    Calls Try.prog 14 #[.slice A L.length ca, x.val] w fun e w' => e = .returned (.bool (decide (x ∈ L))) ∧ Below w.heap.size w w' := by
  have HH := Lib.hid (fun w' (h : SG w' A L) => PolK.hasS A ca L x w' hL h)
  generalize decide (x ∈ L) = ans at *
  obtain ⟨k1, ⟨ho, hn⟩, wh, ⟨ao, an⟩, ⟨bo, bn⟩, v1⟩ := x
  unfold St.val at HH ⊢
  simp only at HH ⊢
  have hbX := below_alloc w (.cells #[.int .i64 k1, .string ho, .string hn, .string wh, .string ao, .string an, .string bo, .string bn, .string v1] 26)
  have HB := Lib.hid hbX
  have HC := Lib.hid (HH.out _ (hA.below hbX))
  clear hbX HH hA
  go_enter Try.func14, Try.ntmps14
  go_wp2_with fail
  refine HC.out.mono ?_
  rintro e w1 ⟨rfl, hb1⟩
  have HB1 := Lib.hid (nx HB.out hb1)
  clear hb1 HC
  go_wp2_with fail
  go_ret
  exact ⟨rfl, HB1.out⟩
set_option maxRecDepth 100000 in
theorem union (A B : Option Addr) (ca cb : Nat) (L M : List St) (w : World) (hL : L.length ≤ 1000) (hM : M.length ≤ 1000) (hA : SG w A L) (hB : SG w B M) :
    Calls Try.prog 17 #[.slice A L.length ca, .slice B M.length cb] w (OwnPost (sortL cmpS [] (L ++ M)) w) := by
  have HG := Lib.hid (gather2 A B ca cb L M w hL hM hA hB)
  generalize sortL cmpS [] (L ++ M) = R at *
  clear hA hB
  go_enter Try.func17, Try.ntmps17
  go_wp2_with fail
  refine HG.out.mono ?_
  intro e w1 hp
  obtain ⟨v, rfl, ho, hb1⟩ := hp
  have HE : Hid (OwnPost R w (.returned v) w1) := Lib.hid ⟨v, rfl, ho, hb1⟩
  obtain ⟨B, cb, rfl, _⟩ := ho.form
  clear ho hb1 HG
  go_wp2_with fail
  go_ret
  exact HE.out
set_option maxRecDepth 100000 in
theorem minus (A B : Option Addr) (ca cb : Nat) (L M : List St) (w : World) (hL : L.length ≤ 1000) (hM : M.length ≤ 1000) (hA : SG w A L) (hB : SG w B M) (hf : ∀ s ∈ L, s.fit) :
    Calls Try.prog 18 #[.slice A L.length ca, .slice B M.length cb] w (OwnPost ((sortL cmpS [] L).filter fun s => !decide (s ∈ M)) w) := by
  have HAm := Lib.hid (among B cb M w hM hB)
  have HP := Lib.hid (fun v w' (hb : Below w.heap.size w w') (hs : Such w'.heap.size w' v fun s => !decide (s ∈ M)) => pick A ca L v _ w' hL (hA.below hb) hf hs)
  generalize (sortL cmpS [] L).filter (fun s => !decide (s ∈ M)) = R at *
  clear hA hB hf
  go_enter Try.func18, Try.ntmps18
  go_wp2_with fail
  refine HAm.out.mono ?_
  intro e w1 hp
  obtain ⟨v, rfl, hs, hb1⟩ := hp
  obtain ⟨F, caps, hv, _⟩ := id hs
  subst hv
  have HN := Lib.hid (not_ F caps w1)
  have HS : Hid (Such (w1.alloc (.cells #[.func (.func F) #[] caps] 28)).heap.size (w1.alloc (.cells #[.func (.func F) #[] caps] 28)) (.func (.func 64) #[] #[.pointer (some ⟨w1.heap.size, 0, none⟩)]) fun s => !decide (s ∈ M)) := Lib.hid (such_not (hs.later (below_alloc w1 _)) (below_alloc w1 _).size w1.heap.size (Lib.cell_of_heap (heap_alloc_new w1 _) 0))
  have HB1 := Lib.hid (nx hb1 (below_alloc w1 (.cells #[.func (.func F) #[] caps] 28)))
  clear hs hb1 HAm
  go_wp2_with fail
  refine HN.out.mono ?_
  rintro e w2 ⟨rfl, rfl⟩
  have HP1 := Lib.hid (HP.out _ _ HB1.out HS.out)
  clear HN HS HP
  go_wp2_with fail
  refine HP1.out.mono ?_
  intro e w2 hp
  obtain ⟨v, rfl, ho, hb2⟩ := hp
  have HE : Hid (OwnPost R w (.returned v) w2) := Lib.hid (OwnPost.nx ⟨v, rfl, ho, hb2⟩ HB1.out)
  obtain ⟨B, cb, rfl, _⟩ := ho.form
  clear ho hb2 HP1
  go_wp2_with fail
  go_ret
  exact HE.out
end Go.Proofs.Ytpjacngbkohmdaa.StF
