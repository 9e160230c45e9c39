/- The text of a policy that asks nothing: policy.Print, by contract. -/
import Derived.Test.YtkmonmpfbchffaaGreatM24
import Derived.Test.YtkmonmpfbchffaaGreatM25
import Derived.Test.YtkmonmpfbchffaaGreatM17
import Derived.Test.YtkmonmpfbchffaaGreatM08
import Derived.Test.YtkmonmpfbchffaaGreatM11
import Derived.Deep.RegionLawGrows
import Derived.Deep.AppendLies
namespace Go.Proofs.YtkmonmpfbchffaaGreat.PolV
set_option linter.unusedVariables false
set_option linter.unusedSimpArgs false
open Go.RowKit Go.Sort Go.Lib Go.Proofs Go.Proofs.YtkmonmpfbchffaaGreat.Plain Go.Proofs.YtkmonmpfbchffaaGreat.SynP Go.Proofs.YtkmonmpfbchffaaGreat.TabP Go.Proofs.YtkmonmpfbchffaaGreat.Tab1 Go.Proofs.YtkmonmpfbchffaaGreat.Grown Go.Proofs.YtkmonmpfbchffaaGreat.SynS Go.Proofs.YtkmonmpfbchffaaGreat.SynL Go.Proofs.YtkmonmpfbchffaaGreat.SynJ Go.Proofs.YtkmonmpfbchffaaGreat.QryP Go.Proofs.YtkmonmpfbchffaaGreat.QryL Go.Proofs.YtkmonmpfbchffaaGreat.SynW Go.Proofs.YtkmonmpfbchffaaGreat.QryH Go.Proofs.YtkmonmpfbchffaaGreat.Build Go.Proofs.YtkmonmpfbchffaaGreat.PolA Go.Proofs.YtkmonmpfbchffaaGreat.PolE Go.Proofs.YtkmonmpfbchffaaGreat.PolG Go.Proofs.YtkmonmpfbchffaaGreat.PolM
set_option linter.unusedVariables false
set_option linter.unusedSimpArgs false
theorem BAt.below {B b : Nat} {p : Value} {bs : List Value} {w w' : World} (h : BAt B b p bs w) (hb : Below w.heap.size w w') : BAt B b p bs w' := by
  have hlt := Lib.BuilderAt.lt h
  obtain ⟨hB, v, hbk, hown, hne⟩ := h
  exact ⟨hB, v, (hb.block b hlt).trans hbk, own_at hown hb, hne⟩
theorem IsB.below {B b : Nat} {bs : List Value} {w w' : World} (h : IsB B b bs w) (hb : Below w.heap.size w w') : IsB B b bs w' := by
  rcases h with h | h
  · exact .inl (BAt.below h hb)
  · exact .inr (BAt.below h hb)
def joinL (T : List Str) : List UInt8 := Lib.join T [32] ++ [10]
set_option maxHeartbeats 1000000 in
set_option maxRecDepth 100000 in
theorem put (B b : Nat) (tx : List UInt8) (A : Option Addr) (c : Nat) (T : List Str) (w : World) (h0 : 0 < T.length) (hT : T.length ≤ 2) (hs : ∀ s ∈ T, s.length ≤ 1000) (hc : T.length ≤ c) (hA : SRow w A T) (hb : IsB B b (Lib.byteCells tx) w) (hB : B ≤ w.heap.size) (hl : tx.length ≤ 10000000) (hj : (Lib.join T [32]).length ≤ 10000) :
    Calls Tryz.prog 64 #[.slice A T.length c, .pointer (some ⟨b, 0, none⟩)] w fun e w' => e = .returned (.tuple #[]) ∧ IsB B b (Lib.byteCells (tx ++ joinL T)) w' ∧ Below B w w' := by
  have HJ := Lib.hid (joinS A c T w h0 (by omega) hs hc hA)
  have HBs := Lib.hid hb
  unfold joinL
  generalize Lib.join T [32] = J at *
  have hsz : (⟨J.toArray⟩ : ByteArray).size = J.length := by show J.toArray.size = _; simp
  have hadd : ((⟨J.toArray⟩ : ByteArray) ++ (⟨#[10]⟩ : ByteArray)).data.toList = J ++ [10] := by simp
  have hsz2 : ((⟨J.toArray⟩ : ByteArray) ++ (⟨#[10]⟩ : ByteArray)).size = J.length + 1 := by
    have := congrArg List.length hadd
    rw [toList_len] at this
    simpa using this
  generalize hX : (⟨J.toArray⟩ : ByteArray) = X at *
  have HX := Lib.hid (And.intro hadd hsz2)
  have hx : ¬ (9223372036854775807 < X.size + (⟨#[10]⟩ : ByteArray).size) := by rw [hsz]; show ¬ (9223372036854775807 < J.length + 1); omega
  clear hX hadd hsz2 hb hA hsz
  go_enter Tryz.func64, Tryz.ntmps64
  go_wp2_with fail
  refine HJ.out.mono ?_
  rintro e w1 ⟨rfl, hb1⟩
  have HB1 := Lib.hid (IsB.below HBs.out hb1)
  have hz := hb1.size
  have HW := Lib.hid (writeString B b (Lib.byteCells tx) (X ++ ⟨#[10]⟩) w1 HB1.out (by rw [Lib.byteCells_length, HX.out.2]; omega) (by omega))
  have HBl := Lib.hid (hb1.mono hB)
  clear hb1
  go_wp2_with fail
  refine HW.out.mono ?_
  rintro e w2 ⟨rfl, hba, hb2, _⟩
  have hfin : IsB B b (Lib.byteCells (tx ++ (J ++ [10]))) w2 := .inr (by rw [Lib.byteCells_append, ← HX.out.1]; exact hba)
  have hbl2 := HBl.out.trans hb2
  clear hba hb2
  go_wp2_with fail
  go_end0
  exact ⟨rfl, hfin, hbl2⟩
def txS (L : List St) (k : Nat) : List UInt8 := ((L.take k).map fun s => bs (line s) ++ [10]).flatten
def txR (word : List UInt8) (L : List Rl) (k : Nat) : List UInt8 := ((L.take k).map fun r => word ++ [32] ++ bs (textR r) ++ [10]).flatten
theorem txS_succ {L : List St} {k : Nat} (h : k < L.length) : txS L (k + 1) = txS L k ++ (bs (line L[k]) ++ [10]) := by
  unfold txS
  rw [List.take_succ_eq_append_getElem h, List.map_append, List.flatten_append, List.map_singleton, List.flatten_singleton]
theorem txR_succ {word : List UInt8} {L : List Rl} {k : Nat} (h : k < L.length) : txR word L (k + 1) = txR word L k ++ (word ++ [32] ++ bs (textR L[k]) ++ [10]) := by
  unfold txR
  rw [List.take_succ_eq_append_getElem h, List.map_append, List.flatten_append, List.map_singleton, List.flatten_singleton]
set_option maxRecDepth 100000 in
theorem txS_len {L : List St} (hs : ∀ s ∈ L, (bs (line s)).length ≤ 900) : ∀ k, (txS L k).length ≤ k * 1000
  | 0 => by simp [txS]
  | k + 1 => by
    have ih := txS_len hs k
    rcases Nat.lt_or_ge k L.length with h | h
    · have := hs L[k] (List.getElem_mem _)
      rw [txS_succ h]; simp; omega
    · have : txS L (k + 1) = txS L k := by unfold txS; rw [List.take_of_length_le (by omega), List.take_of_length_le (by omega)]
      rw [this]; omega
set_option maxRecDepth 100000 in
theorem txR_len {word : List UInt8} {L : List Rl} (hw : word.length ≤ 6) (hs : ∀ r ∈ L, (bs (textR r)).length ≤ 900) : ∀ k, (txR word L k).length ≤ k * 1000
  | 0 => by simp [txR]
  | k + 1 => by
    have ih := txR_len hw hs k
    rcases Nat.lt_or_ge k L.length with h | h
    · have := hs L[k] (List.getElem_mem _)
      rw [txR_succ h]; simp; omega
    · have : txR word L (k + 1) = txR word L k := by unfold txR; rw [List.take_of_length_le (by omega), List.take_of_length_le (by omega)]
      rw [this]; omega
theorem join_one (x : Str) : joinL [x] = x ++ [10] := by unfold joinL; simp [Lib.join]
theorem join_two (x y : Str) : joinL [x, y] = x ++ [32] ++ y ++ [10] := by unfold joinL; simp [Lib.join]
theorem srow_one (X : World) {n : Nat} (hn : X.heap.size = n) (x : ByteArray) : SRow (X.alloc (.cells #[.string x] 9)) (some ⟨n, 0, none⟩) [bs x] := by
  subst hn
  intro _
  refine ⟨X.heap.size, 0, rfl, by simp, fun j hj => ?_⟩
  rw [Nat.zero_add, Lib.cell_of_heap (heap_alloc_new X _)]
  match j, hj with
  | 0, _ => show some (Value.string x) = some (Value.string ⟨(bs x).toArray⟩); rw [← bs_of]
/-- The text of such a policy. -/
def textP (S : List St) (G H : List Rl) : List UInt8 := txS S S.length ++ txR [103, 114, 111, 119] G G.length ++ txR [115, 104, 114, 105, 110, 107] H H.length
def SmallP (S : List St) (G H : List Rl) : Prop := (∀ s ∈ S, (bs (line s)).length ≤ 900) ∧ (∀ r ∈ G, r.owner.size ≤ 400 ∧ r.name.size ≤ 400) ∧ (∀ r ∈ H, r.owner.size ≤ 400 ∧ r.name.size ≤ 400)
theorem textR_small {r : Rl} (h : r.owner.size ≤ 400 ∧ r.name.size ≤ 400) : (bs (textR r)).length ≤ 900 := by
  have : (bs (textR r)).length = (textR r).size := toList_len _
  rw [this]
  unfold textR
  have e : (⟨#[46]⟩ : ByteArray).size = 1 := rfl
  simp; omega
set_option maxHeartbeats 2000000 in
set_option maxRecDepth 100000 in
theorem print (A1 A2 A3 A4 : Option Addr) (c1 c2 c3 c4 : Nat) (S : List St) (G H : List Rl) (w : World) (hf : Py.fit ⟨S, G, H, []⟩) (hp : PG w A1 A2 A3 A4 ⟨S, G, H, []⟩) (hr : rightP ⟨S, G, H, []⟩ = true) (hsm : SmallP S G H) :
    Calls Tryz.prog 21 #[.agg #[.slice A1 S.length c1, .slice A2 G.length c2, .slice A3 H.length c3, .slice A4 0 c4]] w fun e w' => e = .returned (.string ⟨(textP S G H).toArray⟩) ∧ Below w.heap.size w w' := by
  have hR : ∀ w', PG w' A1 A2 A3 A4 ⟨S, G, H, []⟩ → Calls Tryz.prog 17 #[.agg #[.slice A1 S.length c1, .slice A2 G.length c2, .slice A3 H.length c3, .slice A4 0 c4]] w' fun e w'' => e = .returned (.bool true) ∧ Below w'.heap.size w' w'' := fun w' h => by rw [← hr]; exact right ⟨S, G, H, []⟩ A1 A2 A3 A4 c1 c2 c3 c4 w' hf h
  have HR := Lib.hid hR
  have HP := Lib.hid (fun (w' : World) (h : Below w.heap.size w w') => hp.below h)
  have n1 : S.length ≤ 1000 := hf.n1
  have n2 : G.length ≤ 1000 := hf.n2
  have n3 : H.length ≤ 1000 := hf.n3
  have HFS := Lib.hid (fun s h => hf.f1 s h)
  simp only at HFS
  obtain ⟨k1, k2, k3⟩ := hsm
  have HK1 := Lib.hid k1
  have HK2 := Lib.hid k2
  have HK3 := Lib.hid k3
  have L1 := txS_len k1
  have L2 := txR_len (word := [103, 114, 111, 119]) (by simp) (fun r h => textR_small (k2 r h))
  have L3 := txR_len (word := [115, 104, 114, 105, 110, 107]) (by simp) (fun r h => textR_small (k3 r h))
  have HL1 := Lib.hid L1
  have HL2 := Lib.hid L2
  have HL3 := Lib.hid L3
  have hb0 := (Below.refl w.heap.size w).alloc (Nat.le_refl _) (.cells #[.slice A1 S.length c1, .slice A2 G.length c2, .slice A3 H.length c3, .slice A4 0 c4] 42)
  have HB0 := Lib.hid hb0
  obtain ⟨TT, hTT⟩ : ∃ TT, textP S G H = TT := ⟨_, rfl⟩
  rw [hTT]
  have HTT := Lib.hid hTT
  clear hR hp hf k1 k2 k3 hr L1 L2 L3 hb0 hTT
  go_enter Tryz.func21, Tryz.ntmps21
  go_wp2_with fail
  refine (HR.out _ (HP.out _ HB0.out)).mono ?_
  rintro e w1 ⟨rfl, hb1⟩
  have z1 : w.heap.size + 1 ≤ w1.heap.size := by have := hb1.size; simpa using this
  have hcP1 : ∀ o, w1.cell? ⟨w.heap.size, o, none⟩ = (#[.slice A1 S.length c1, .slice A2 G.length c2, .slice A3 H.length c3, .slice A4 0 c4] : Array Value)[o]? := fun o => by rw [hb1.cell (by simp), Lib.cell_of_heap (heap_alloc_new w _)]
  have hlw : Below w.heap.size w w1 := HB0.out.trans (hb1.mono (by simp))
  have HLw := Lib.hid hlw
  have HCP := Lib.hid (fun (wr : World) (h : Below w1.heap.size w1 wr) (o : Nat) => (h.cell (p := ⟨w.heap.size, o, none⟩) (by show w.heap.size < _; omega)).trans (hcP1 o))
  have hcB := Lib.hid (Lib.fresh_isBuilder 83 5 w1)
  have HCB := hcB
  clear hcP1 hlw
  have hcP := HCP.out _ ((Below.refl _ w1).alloc (Nat.le_refl _) (.cells #[.pointer none, .slice none 0 0] 83))
  go_wp2_with fail
  clear hcP
  go_loopw [20] (fun i wr => ∃ k : Nat, k ≤ S.length ∧ i = .int .i64 k ∧ Hid (IsB w1.heap.size w1.heap.size (Lib.byteCells (txS S k)) wr) ∧ Below w1.heap.size w1 wr) (fun i _ => S.length - (intOf i).toNat)
  case atStart => exact ⟨0, by omega, rfl, by simpa [txS, Lib.byteCells] using hcB, (Below.refl _ _).alloc (Nat.le_refl _) _⟩
  case round =>
    obtain ⟨k, hk, rfl, hB, hbel⟩ := hrel
    have zr := hbel.size
    by_cases hlt : k < S.length
    · have d1 : decide ((k : Int) < S.length) = true := by simp; omega
      have p1 : (0 : Int) ≤ k := by omega
      have p2 : (k : Int) < S.length := by omega
      obtain ⟨g, o, e1, hg, hc⟩ := (HP.out _ (HLw.out.trans (hbel.mono (by omega)))).s (by show 0 < S.length; omega)
      obtain rfl := e1
      obtain ⟨a0, a1, a2, a3, a4, a5, a6, a7, a8⟩ := hc k hlt
      have hPr : ∀ w', Calls Tryz.prog 67 #[.agg #[.int .i64 S[k].kind, .string S[k].head.owner, .string S[k].head.name, .string S[k].who, .string S[k].a.owner, .string S[k].a.name, .string S[k].b.owner, .string S[k].b.name, .string S[k].via]] w' fun e w'' => e = .returned (.string (line S[k])) ∧ Grew w' w'' := fun w' => SynL.print S[k] w' (HFS.out _ (List.getElem_mem _))
      have hsz := HK1.out _ (List.getElem_mem hlt)
      have Htx : Hid (txS S (k + 1) = txS S k ++ joinL [bs (line S[k])]) := Lib.hid (by rw [txS_succ hlt, join_one])
      have hln := HL1.out k
      obtain ⟨X, hX⟩ : ∃ X, line S[k] = X := ⟨_, rfl⟩
      rw [hX] at hPr hsz Htx
      have HPr := Lib.hid hPr
      have hz1 := hbel.alloc zr (.cells #[.int .i64 S[k].kind, .string S[k].head.owner, .string S[k].head.name, .string S[k].who, .string S[k].a.owner, .string S[k].a.name, .string S[k].b.owner, .string S[k].b.name, .string S[k].via] 72)
      have hB1 := Lib.hid (IsB.below hB.out ((Below.refl _ wr).alloc (Nat.le_refl _) (.cells #[.int .i64 S[k].kind, .string S[k].head.owner, .string S[k].head.name, .string S[k].who, .string S[k].a.owner, .string S[k].a.name, .string S[k].b.owner, .string S[k].b.name, .string S[k].via] 72)))
      clear hc hPr hX hB
      go_wp2_with fail
      refine (HPr.out _).mono ?_
      rintro e w2 ⟨rfl, hg2⟩
      have hb2 := hg2.below
      have hb3 := hz1.trans (hb2.mono hz1.size)
      have HS := Lib.hid (srow_one w2 rfl X)
      have hb4 := hb3.alloc hb3.size (.cells #[.string X] 9)
      have hB4 := IsB.below (IsB.below hB1.out hb2) ((Below.refl _ w2).alloc (Nat.le_refl _) (.cells #[.string X] 9))
      have HPut := Lib.hid (put w1.heap.size w1.heap.size (txS S k) (some ⟨w2.heap.size, 0, none⟩) 1 [bs X] _ (by simp) (by simp) (by intro s hs; simp at hs; subst hs; omega) (by simp) HS.out hB4 hb4.size (by omega) (by simp [Lib.join]; omega))
      have HB4 := Lib.hid hb4
      clear hg2 hb2 hb3 hz1 hB4 hb4 hbel hsz
      go_wp2_with fail
      refine HPut.out.mono ?_
      rintro e w3 ⟨rfl, hB5, hb5⟩
      have hB6 : Hid (IsB w1.heap.size w1.heap.size (Lib.byteCells (txS S (k + 1))) w3) := Lib.hid (by rw [Htx.out]; exact hB5)
      have hb6 := HB4.out.trans hb5
      clear hB5 hb5
      go_wp2_with fail
      go_roundw
      case rel => exact ⟨k + 1, by omega, by go_num, hB6, hb6⟩
      case measure => simp [intOf]; omega
    · have d1 : decide ((k : Int) < S.length) = false := by simp; omega
      have hkS : k = S.length := by omega
      subst hkS
      have hcP := HCP.out _ hbel
      have HB := hB
      have HBl := Lib.hid hbel
      have hln := HL1.out S.length
      clear hB
      obtain ⟨T1, hT1⟩ : ∃ T1, txS S S.length = T1 := ⟨_, rfl⟩
      rw [hT1] at HB hln
      have HT1 := Lib.hid hT1
      have hl1 : T1.length ≤ 1000000 := by omega
      clear hT1 hln
      go_wp2_with fail
      clear hcP
      go_loopw [33] (fun i wr => ∃ k : Nat, k ≤ G.length ∧ i = .int .i64 k ∧ Hid (IsB w1.heap.size w1.heap.size (Lib.byteCells (T1 ++ txR [103, 114, 111, 119] G k)) wr) ∧ Below w1.heap.size w1 wr) (fun i _ => G.length - (intOf i).toNat)
      case atStart => exact ⟨0, by omega, rfl, by simpa [txR] using HB, HBl.out⟩
      case round =>
        obtain ⟨k, hk, rfl, hB, hbel⟩ := hrel
        have zr := hbel.size
        by_cases hlt : k < G.length
        · have d1 : decide ((k : Int) < G.length) = true := by simp; omega
          have p1 : (0 : Int) ≤ k := by omega
          have p2 : (k : Int) < G.length := by omega
          obtain ⟨g, o, e1, hg, hc⟩ := (HP.out _ (HLw.out.trans (hbel.mono (by omega)))).g (by show 0 < G.length; omega)
          obtain rfl := e1
          obtain ⟨a0, a1⟩ := hc k hlt
          have hPr : ∀ w', Calls Tryz.prog 68 #[.agg #[.string G[k].owner, .string G[k].name]] w' fun e w'' => e = .returned (.string (textR G[k])) ∧ Grew w' w'' := fun w' => SynL.printRole' G[k].owner G[k].name w' (by have := (HK2.out _ (List.getElem_mem hlt)).1; omega) (by have := (HK2.out _ (List.getElem_mem hlt)).2; omega)
          have hsz := textR_small (HK2.out _ (List.getElem_mem hlt))
          have Htx : Hid (txR [103, 114, 111, 119] G (k + 1) = txR [103, 114, 111, 119] G k ++ joinL [bs (⟨#[103, 114, 111, 119]⟩ : ByteArray), bs (textR G[k])]) := Lib.hid (by rw [txR_succ hlt, join_two]; rfl)
          have hln := HL2.out k
          obtain ⟨X, hX⟩ : ∃ X, textR G[k] = X := ⟨_, rfl⟩
          rw [hX] at hPr hsz Htx
          have HPr := Lib.hid hPr
          have hz1 := hbel.alloc zr (.cells #[.string G[k].owner, .string G[k].name] 23)
          have hB1 := Lib.hid (IsB.below hB.out ((Below.refl _ wr).alloc (Nat.le_refl _) (.cells #[.string G[k].owner, .string G[k].name] 23)))
          clear hc hPr hX hB
          go_wp2_with fail
          refine (HPr.out _).mono ?_
          rintro e w2 ⟨rfl, hg2⟩
          have hb2 := hg2.below
          have hb3 := hz1.trans (hb2.mono hz1.size)
          have HS := Lib.hid (srow_two w2 (⟨#[103, 114, 111, 119]⟩ : ByteArray) X)
          have hb4 := hb3.alloc hb3.size (.cells #[.string (⟨#[103, 114, 111, 119]⟩ : ByteArray), .string X] 9)
          have hB4 := IsB.below (IsB.below hB1.out hb2) ((Below.refl _ w2).alloc (Nat.le_refl _) (.cells #[.string (⟨#[103, 114, 111, 119]⟩ : ByteArray), .string X] 9))
          have HPut := Lib.hid (put w1.heap.size w1.heap.size (T1 ++ txR [103, 114, 111, 119] G k) (some ⟨w2.heap.size, 0, none⟩) 2 [bs (⟨#[103, 114, 111, 119]⟩ : ByteArray), bs X] _ (by simp) (by simp) (by intro s hs; simp at hs; rcases hs with rfl | rfl; (show 4 ≤ 1000; omega); omega) (by simp) HS.out hB4 hb4.size (by simp only [List.length_append]; omega) (by simp [Lib.join]; show 4 + _ ≤ _; omega))
          have HB4 := Lib.hid hb4
          clear hg2 hb2 hb3 hz1 hB4 hb4 hbel hsz
          go_wp2_with fail
          refine HPut.out.mono ?_
          rintro e w3 ⟨rfl, hB5, hb5⟩
          have hB6 : Hid (IsB w1.heap.size w1.heap.size (Lib.byteCells (T1 ++ txR [103, 114, 111, 119] G (k + 1))) w3) := Lib.hid (by rw [Htx.out, ← List.append_assoc]; exact hB5)
          have hb6 := HB4.out.trans hb5
          clear hB5 hb5
          go_wp2_with fail
          go_roundw
          case rel => exact ⟨k + 1, by omega, by go_num, hB6, hb6⟩
          case measure => simp [intOf]; omega
        · have d1 : decide ((k : Int) < G.length) = false := by simp; omega
          have hkS : k = G.length := by omega
          subst hkS
          have hcP := HCP.out _ hbel
          have HB := hB
          have HBl := Lib.hid hbel
          have hln := HL2.out G.length
          clear hB
          obtain ⟨T2, hT2⟩ : ∃ T2, T1 ++ txR [103, 114, 111, 119] G G.length = T2 := ⟨_, rfl⟩
          rw [hT2] at HB
          have HT2 := Lib.hid hT2
          have hl2 : T2.length ≤ 2000000 := by rw [← hT2]; simp only [List.length_append]; omega
          clear hT2 hln
          go_wp2_with fail
          clear hcP
          go_loopw [46] (fun i wr => ∃ k : Nat, k ≤ H.length ∧ i = .int .i64 k ∧ Hid (IsB w1.heap.size w1.heap.size (Lib.byteCells (T2 ++ txR [115, 104, 114, 105, 110, 107] H k)) wr) ∧ Below w1.heap.size w1 wr) (fun i _ => H.length - (intOf i).toNat)
          case atStart => exact ⟨0, by omega, rfl, by simpa [txR] using HB, HBl.out⟩
          case round =>
            obtain ⟨k, hk, rfl, hB, hbel⟩ := hrel
            have zr := hbel.size
            by_cases hlt : k < H.length
            · have d1 : decide ((k : Int) < H.length) = true := by simp; omega
              have p1 : (0 : Int) ≤ k := by omega
              have p2 : (k : Int) < H.length := by omega
              obtain ⟨g, o, e1, hg, hc⟩ := (HP.out _ (HLw.out.trans (hbel.mono (by omega)))).h (by show 0 < H.length; omega)
              obtain rfl := e1
              obtain ⟨a0, a1⟩ := hc k hlt
              have hPr : ∀ w', Calls Tryz.prog 68 #[.agg #[.string H[k].owner, .string H[k].name]] w' fun e w'' => e = .returned (.string (textR H[k])) ∧ Grew w' w'' := fun w' => SynL.printRole' H[k].owner H[k].name w' (by have := (HK3.out _ (List.getElem_mem hlt)).1; omega) (by have := (HK3.out _ (List.getElem_mem hlt)).2; omega)
              have hsz := textR_small (HK3.out _ (List.getElem_mem hlt))
              have Htx : Hid (txR [115, 104, 114, 105, 110, 107] H (k + 1) = txR [115, 104, 114, 105, 110, 107] H k ++ joinL [bs (⟨#[115, 104, 114, 105, 110, 107]⟩ : ByteArray), bs (textR H[k])]) := Lib.hid (by rw [txR_succ hlt, join_two]; rfl)
              have hln := HL3.out k
              obtain ⟨X, hX⟩ : ∃ X, textR H[k] = X := ⟨_, rfl⟩
              rw [hX] at hPr hsz Htx
              have HPr := Lib.hid hPr
              have hz1 := hbel.alloc zr (.cells #[.string H[k].owner, .string H[k].name] 23)
              have hB1 := Lib.hid (IsB.below hB.out ((Below.refl _ wr).alloc (Nat.le_refl _) (.cells #[.string H[k].owner, .string H[k].name] 23)))
              clear hc hPr hX hB
              go_wp2_with fail
              refine (HPr.out _).mono ?_
              rintro e w2 ⟨rfl, hg2⟩
              have hb2 := hg2.below
              have hb3 := hz1.trans (hb2.mono hz1.size)
              have HS := Lib.hid (srow_two w2 (⟨#[115, 104, 114, 105, 110, 107]⟩ : ByteArray) X)
              have hb4 := hb3.alloc hb3.size (.cells #[.string (⟨#[115, 104, 114, 105, 110, 107]⟩ : ByteArray), .string X] 9)
              have hB4 := IsB.below (IsB.below hB1.out hb2) ((Below.refl _ w2).alloc (Nat.le_refl _) (.cells #[.string (⟨#[115, 104, 114, 105, 110, 107]⟩ : ByteArray), .string X] 9))
              have HPut := Lib.hid (put w1.heap.size w1.heap.size (T2 ++ txR [115, 104, 114, 105, 110, 107] H k) (some ⟨w2.heap.size, 0, none⟩) 2 [bs (⟨#[115, 104, 114, 105, 110, 107]⟩ : ByteArray), bs X] _ (by simp) (by simp) (by intro s hs; simp at hs; rcases hs with rfl | rfl; (show 6 ≤ 1000; omega); omega) (by simp) HS.out hB4 hb4.size (by simp only [List.length_append]; omega) (by simp [Lib.join]; show 6 + _ ≤ _; omega))
              have HB4 := Lib.hid hb4
              clear hg2 hb2 hb3 hz1 hB4 hb4 hbel hsz
              go_wp2_with fail
              refine HPut.out.mono ?_
              rintro e w3 ⟨rfl, hB5, hb5⟩
              have hB6 : Hid (IsB w1.heap.size w1.heap.size (Lib.byteCells (T2 ++ txR [115, 104, 114, 105, 110, 107] H (k + 1))) w3) := Lib.hid (by rw [Htx.out, ← List.append_assoc]; exact hB5)
              have hb6 := HB4.out.trans hb5
              clear hB5 hb5
              go_wp2_with fail
              go_roundw
              case rel => exact ⟨k + 1, by omega, by go_num, hB6, hb6⟩
              case measure => simp [intOf]; omega
            · have d1 : decide ((k : Int) < H.length) = false := by simp; omega
              have hkS : k = H.length := by omega
              subst hkS
              have hcP := HCP.out _ hbel
              have HB := hB
              have HBl := Lib.hid hbel
              have hln := HL3.out H.length
              clear hB
              have hfin : Hid (T2 ++ txR [115, 104, 114, 105, 110, 107] H H.length = TT) := Lib.hid (by rw [← HTT.out, ← HT2.out, ← HT1.out]; rfl)
              rw [hfin.out] at HB
              clear hln
              go_wp2_with fail
              clear hcP
              go_loopw [59] (fun i wx => i = .int .i64 0 ∧ wx = wr) (fun _ _ => 0)
              case atStart => exact ⟨rfl, rfl⟩
              case round =>
                obtain ⟨rfl, rfl⟩ := hrel
                have HSt := Lib.hid (Tryz.Builder_String_any _ _ _ _ HB.out HBl.out.size)
                go_wp2_with fail
                refine HSt.out.mono ?_
                rintro e w4 ⟨rfl, hb4⟩
                have hbf := HLw.out.trans ((HBl.out.trans hb4).mono (by omega : w.heap.size ≤ w1.heap.size))
                clear hb4
                go_wp2_with fail
                go_ret
                exact ⟨rfl, hbf⟩
end Go.Proofs.YtkmonmpfbchffaaGreat.PolV
/- The document's example of a policy. -/
namespace Go.Proofs.YtkmonmpfbchffaaGreat.PolLv
set_option linter.unusedVariables false
set_option linter.unusedSimpArgs false
open Go.RowKit Go.Sort Go.Lib Go.Proofs Go.Proofs.YtkmonmpfbchffaaGreat.Plain Go.Proofs.YtkmonmpfbchffaaGreat.SynP Go.Proofs.YtkmonmpfbchffaaGreat.TabP Go.Proofs.YtkmonmpfbchffaaGreat.Tab1 Go.Proofs.YtkmonmpfbchffaaGreat.Grown Go.Proofs.YtkmonmpfbchffaaGreat.Lines1 Go.Proofs.YtkmonmpfbchffaaGreat.Scan3 Go.Proofs.YtkmonmpfbchffaaGreat.SynA Go.Proofs.YtkmonmpfbchffaaGreat.SynR Go.Proofs.YtkmonmpfbchffaaGreat.SynS Go.Proofs.YtkmonmpfbchffaaGreat.SynL Go.Proofs.YtkmonmpfbchffaaGreat.SynV Go.Proofs.YtkmonmpfbchffaaGreat.SynY Go.Proofs.YtkmonmpfbchffaaGreat.SynJ Go.Proofs.YtkmonmpfbchffaaGreat.QryP Go.Proofs.YtkmonmpfbchffaaGreat.QryL Go.Proofs.YtkmonmpfbchffaaGreat.QryX Go.Proofs.YtkmonmpfbchffaaGreat.PolA Go.Proofs.YtkmonmpfbchffaaGreat.PolD Go.Proofs.YtkmonmpfbchffaaGreat.PolE Go.Proofs.YtkmonmpfbchffaaGreat.PolG Go.Proofs.YtkmonmpfbchffaaGreat.PolI Go.Proofs.YtkmonmpfbchffaaGreat.PolM Go.Proofs.YtkmonmpfbchffaaGreat.PolP Go.Proofs.YtkmonmpfbchffaaGreat.PolR Go.Proofs.YtkmonmpfbchffaaGreat.PolT Go.Proofs.YtkmonmpfbchffaaGreat.PolU Go.Proofs.YtkmonmpfbchffaaGreat.PolV
set_option linter.unusedVariables false
set_option linter.unusedSimpArgs false
def exT : ByteArray := ⟨#[103, 114, 111, 119, 32, 65, 46, 114, 10, 65, 46, 114, 32, 60, 45, 32, 66, 10, 65, 46, 114, 32, 60, 45, 32, 66, 32, 35, 32, 116, 119, 105, 99, 101, 10]⟩
def exR : Rl := ⟨⟨#[65]⟩, ⟨#[114]⟩⟩
def exS : St := ⟨1, exR, ⟨#[66]⟩, zeroR, zeroR, noText⟩
theorem ex_lines : linesOf exT = [[103, 114, 111, 119, 32, 65, 46, 114], [65, 46, 114, 32, 60, 45, 32, 66], [65, 46, 114, 32, 60, 45, 32, 66, 32, 35, 32, 116, 119, 105, 99, 101]] := by decide +kernel
theorem ex_a1 : ansOf (ln [103, 114, 111, 119, 32, 65, 46, 114]) = .ok [⟨2, ⟨#[103, 114, 111, 119]⟩, 1⟩, ⟨1, ⟨#[65]⟩, 6⟩, ⟨3, ⟨#[46]⟩, 7⟩, ⟨2, ⟨#[114]⟩, 8⟩] := by kernel_rfl
theorem ex_a2 : ansOf (ln [65, 46, 114, 32, 60, 45, 32, 66]) = .ok [⟨1, ⟨#[65]⟩, 1⟩, ⟨3, ⟨#[46]⟩, 2⟩, ⟨2, ⟨#[114]⟩, 3⟩, ⟨4, ⟨#[60, 45]⟩, 5⟩, ⟨1, ⟨#[66]⟩, 8⟩] := by kernel_rfl
theorem ex_a3 : ansOf (ln [65, 46, 114, 32, 60, 45, 32, 66, 32, 35, 32, 116, 119, 105, 99, 101]) = .ok [⟨1, ⟨#[65]⟩, 1⟩, ⟨3, ⟨#[46]⟩, 2⟩, ⟨2, ⟨#[114]⟩, 3⟩, ⟨4, ⟨#[60, 45]⟩, 5⟩, ⟨1, ⟨#[66]⟩, 8⟩] := by kernel_rfl
theorem ex_p : parseA (.ok [⟨1, ⟨#[65]⟩, 1⟩, ⟨3, ⟨#[46]⟩, 2⟩, ⟨2, ⟨#[114]⟩, 3⟩, ⟨4, ⟨#[60, 45]⟩, 5⟩, ⟨1, ⟨#[66]⟩, 8⟩]) = (exS, 0, 0) := by kernel_rfl
def e1 : Dr := ⟨[], [exR], []⟩
def e2 : Dr := ⟨[exS], [exR], []⟩
theorem ex_r1 : addR d0 [⟨2, ⟨#[103, 114, 111, 119]⟩, 1⟩, ⟨1, ⟨#[65]⟩, 6⟩, ⟨3, ⟨#[46]⟩, 7⟩, ⟨2, ⟨#[114]⟩, 8⟩] = (e1, 0, 0) := by kernel_rfl
theorem ex_r2 : addR e1 [⟨1, ⟨#[65]⟩, 1⟩, ⟨3, ⟨#[46]⟩, 2⟩, ⟨2, ⟨#[114]⟩, 3⟩, ⟨4, ⟨#[60, 45]⟩, 5⟩, ⟨1, ⟨#[66]⟩, 8⟩] = (e2, 0, 0) := by kernel_rfl
theorem ex_r3 : addR e2 [⟨1, ⟨#[65]⟩, 1⟩, ⟨3, ⟨#[46]⟩, 2⟩, ⟨2, ⟨#[114]⟩, 3⟩, ⟨4, ⟨#[60, 45]⟩, 5⟩, ⟨1, ⟨#[66]⟩, 8⟩] = (e2, 0, 0) := by kernel_rfl
theorem ex_f1 : fitsP e1.py = true := by decide +kernel
theorem ex_f2 : fitsP e2.py = true := by
  have h1 : (tab (PolH.prinsT e2.py)).length ≤ 16 := Nat.le_trans (tab_len_le _) (by decide +kernel)
  have h2 : (tab (PolH.namesT e2.py)).length ≤ 12 := Nat.le_trans (tab_len_le _) (by decide +kernel)
  have h3 : e2.py.stmts.length ≤ 80 := by decide
  have h4 : e2.py.grow.length ≤ 40 := by decide
  have h5 : e2.py.shrink.length ≤ 40 := by decide
  have h6 : e2.py.asks.length ≤ 16 := by decide
  unfold fitsP
  rw [decide_eq_true h1, decide_eq_true h2, decide_eq_true h3, decide_eq_true h4, decide_eq_true h5, decide_eq_true h6]; rfl
theorem ex_m1 : addM d0 (ansOf (ln [103, 114, 111, 119, 32, 65, 46, 114])) = (e1, 0, 0) := by
  rw [ex_a1]
  show (if _ then _ else _) = _
  rw [ex_r1]
  exact if_neg (fun h => by have := h.2; rw [show fitsP (e1, (0 : Int), (0 : Int)).1.py = true from ex_f1] at this; cases this)
theorem ex_m2 : addM e1 (ansOf (ln [65, 46, 114, 32, 60, 45, 32, 66])) = (e2, 0, 0) := by
  rw [ex_a2]
  show (if _ then _ else _) = _
  rw [ex_r2]
  exact if_neg (fun h => by have := h.2; rw [show fitsP (e2, (0 : Int), (0 : Int)).1.py = true from ex_f2] at this; cases this)
theorem ex_m3 : addM e2 (ansOf (ln [65, 46, 114, 32, 60, 45, 32, 66, 32, 35, 32, 116, 119, 105, 99, 101])) = (e2, 0, 0) := by
  rw [ex_a3]
  show (if _ then _ else _) = _
  rw [ex_r3]
  exact if_neg (fun h => by have := h.2; rw [show fitsP (e2, (0 : Int), (0 : Int)).1.py = true from ex_f2] at this; cases this)
theorem fit_e (S : List St) (h : S = [] ∨ S = [exS]) : Py.fit ⟨S, [exR], [], []⟩ := by
  have hr : exR.light := ⟨by show 1 ≤ maxLen; unfold maxLen; omega, by show 1 ≤ maxLen; unfold maxLen; omega⟩
  have hz : zeroR.light := ⟨Nat.zero_le _, Nat.zero_le _⟩
  have hs : exS.fit := ⟨hr, by show 1 ≤ maxLen; unfold maxLen; omega, hz, hz, Nat.zero_le _⟩
  refine ⟨?_, by simp, by simp, by simp, ?_, ?_, by simp, by simp, by simp⟩
  · rcases h with rfl | rfl <;> simp
  · intro s hm
    rcases h with rfl | rfl
    · simp at hm
    · simp at hm; subst hm; exact hs
  · intro r hm; simp at hm; subst hm; exact hr
theorem ex_run : runM (linesOf exT) 0 d0 = (e2, 0, 0, 0) := by
  rw [ex_lines]
  unfold runM
  rw [ex_m1]
  simp only [if_true]
  unfold runM
  rw [ex_m2]
  simp only [if_true]
  unfold runM
  rw [ex_m3]
  simp only [if_true]
  rfl
theorem ex_fine : Fine (linesOf exT) d0 := by
  rw [ex_lines]
  refine ⟨by decide, ?_, fun _ => ?_⟩
  · rw [ex_a1]
    exact ⟨by decide +kernel, by decide, by decide, by decide, fun _ => by show Py.fit (addR d0 [⟨2, ⟨#[103, 114, 111, 119]⟩, 1⟩, ⟨1, ⟨#[65]⟩, 6⟩, ⟨3, ⟨#[46]⟩, 7⟩, ⟨2, ⟨#[114]⟩, 8⟩]).1.py; rw [ex_r1]; exact fit_e [] (.inl rfl)⟩
  · rw [ex_m1]
    refine ⟨by decide, ?_, fun _ => ?_⟩
    · rw [ex_a2]
      exact ⟨by decide +kernel, by decide, by decide, by decide, fun _ => by show Py.fit (addR e1 [⟨1, ⟨#[65]⟩, 1⟩, ⟨3, ⟨#[46]⟩, 2⟩, ⟨2, ⟨#[114]⟩, 3⟩, ⟨4, ⟨#[60, 45]⟩, 5⟩, ⟨1, ⟨#[66]⟩, 8⟩]).1.py; rw [ex_r2]; exact fit_e _ (.inr rfl)⟩
    · rw [ex_m2]
      refine ⟨by decide, ?_, fun _ => ?_⟩
      · rw [ex_a3]
        exact ⟨by decide +kernel, by decide, by decide, by decide, fun _ => by show Py.fit (addR e2 [⟨1, ⟨#[65]⟩, 1⟩, ⟨3, ⟨#[46]⟩, 2⟩, ⟨2, ⟨#[114]⟩, 3⟩, ⟨4, ⟨#[60, 45]⟩, 5⟩, ⟨1, ⟨#[66]⟩, 8⟩]).1.py; rw [ex_r3]; exact fit_e _ (.inr rfl)⟩
      · rw [ex_m3]
        exact ⟨by decide, by decide, by decide⟩
theorem ex_norm : sortSt (normS e2.s e2.s.length) = [exS] ∧ sortRl e2.g = [exR] ∧ sortRl e2.h = [] := by
  refine ⟨by decide +kernel, by decide +kernel, by decide +kernel⟩
theorem ex_right : rightP ⟨[exS], [exR], [], []⟩ = true := by
  have h : fitsP ⟨[exS], [exR], [], []⟩ = true := ex_f2
  unfold rightP
  rw [h]
  decide +kernel
theorem ex_text : textP [exS] [exR] [] = [65, 46, 114, 32, 60, 45, 32, 66, 10, 103, 114, 111, 119, 32, 65, 46, 114, 10] := by decide +kernel
theorem ex_small : SmallP [exS] [exR] [] := by
  refine ⟨?_, ?_, by simp⟩
  · intro s hs; simp at hs; subst hs; decide +kernel
  · intro r hr; simp at hr; subst hr; decide +kernel
end Go.Proofs.YtkmonmpfbchffaaGreat.PolLv
/- The document's example of a policy, by contract. -/
namespace Go.Proofs.YtkmonmpfbchffaaGreat.PolLw
set_option linter.unusedVariables false
set_option linter.unusedSimpArgs false
open Go.RowKit Go.Sort Go.Lib Go.Proofs Go.Proofs.YtkmonmpfbchffaaGreat.Plain Go.Proofs.YtkmonmpfbchffaaGreat.SynP Go.Proofs.YtkmonmpfbchffaaGreat.TabP Go.Proofs.YtkmonmpfbchffaaGreat.Tab1 Go.Proofs.YtkmonmpfbchffaaGreat.Grown Go.Proofs.YtkmonmpfbchffaaGreat.SynJ Go.Proofs.YtkmonmpfbchffaaGreat.QryP Go.Proofs.YtkmonmpfbchffaaGreat.PolA Go.Proofs.YtkmonmpfbchffaaGreat.PolD Go.Proofs.YtkmonmpfbchffaaGreat.PolE Go.Proofs.YtkmonmpfbchffaaGreat.PolG Go.Proofs.YtkmonmpfbchffaaGreat.PolM Go.Proofs.YtkmonmpfbchffaaGreat.PolU Go.Proofs.YtkmonmpfbchffaaGreat.PolV Go.Proofs.YtkmonmpfbchffaaGreat.PolLv
set_option linter.unusedVariables false
set_option linter.unusedSimpArgs false
def ExPost (w : World) (e : Ending) (w' : World) : Prop := ∃ B1 k1 B2 k2 B3 k3, e = .returned (.tuple #[.agg #[.slice B1 1 k1, .slice B2 1 k2, .slice B3 0 k3, .slice none 0 0], .agg #[.int .i64 0, .int .i64 0, .int .i64 0]]) ∧ PG w' B1 B2 B3 none ⟨[exS], [exR], [], []⟩ ∧ Below w.heap.size w w'
theorem ex_call (w : World) : Calls Tryz.prog 37 #[.string ⟨#[103, 114, 111, 119, 32, 65, 46, 114, 10, 65, 46, 114, 32, 60, 45, 32, 66, 10, 65, 46, 114, 32, 60, 45, 32, 66, 32, 35, 32, 116, 119, 105, 99, 101, 10]⟩] w (ExPost w) := by
  refine (parse exT w (by decide +kernel) ex_fine).mono fun e w' hp => ?_
  rw [ex_run] at hp
  unfold PolPost at hp
  rw [if_pos rfl] at hp
  obtain ⟨B1, k1, B2, k2, B3, k3, he, h1, h2, h3, hb⟩ := hp
  simp only at he h1 h2 h3
  rw [ex_norm.1, ex_norm.2.1, ex_norm.2.2] at he
  rw [ex_norm.1] at h1
  rw [ex_norm.2.1] at h2
  rw [ex_norm.2.2] at h3
  exact ⟨B1, k1, B2, k2, B3, k3, he, ⟨h1, h2, h3, fun hp => by simp at hp⟩, hb⟩
theorem fitE : Py.fit ⟨[exS], [exR], [], []⟩ := fit_e [exS] (.inr rfl)
set_option maxHeartbeats 1000000 in
set_option maxRecDepth 100000 in
theorem lives (w : World) : Calls Tryz.prog 16 #[] w fun e w' => e = .returned (.bool true) ∧ Below w.heap.size w w' := by
  have HC := Lib.hid (ex_call w)
  have hR : ∀ (B1 B2 B3 : Option Addr) (k1 k2 k3 : Nat) (w' : World), PG w' B1 B2 B3 none ⟨[exS], [exR], [], []⟩ → Calls Tryz.prog 17 #[.agg #[.slice B1 1 k1, .slice B2 1 k2, .slice B3 0 k3, .slice none 0 0]] w' fun e w'' => e = .returned (.bool true) ∧ Below w'.heap.size w' w'' := fun B1 B2 B3 k1 k2 k3 w' h => by
    rw [← ex_right]; exact right ⟨[exS], [exR], [], []⟩ B1 B2 B3 none k1 k2 k3 0 w' fitE h
  have hP : ∀ (B1 B2 B3 : Option Addr) (k1 k2 k3 : Nat) (w' : World), PG w' B1 B2 B3 none ⟨[exS], [exR], [], []⟩ → Calls Tryz.prog 21 #[.agg #[.slice B1 1 k1, .slice B2 1 k2, .slice B3 0 k3, .slice none 0 0]] w' fun e w'' => e = .returned (.string ⟨#[65, 46, 114, 32, 60, 45, 32, 66, 10, 103, 114, 111, 119, 32, 65, 46, 114, 10]⟩) ∧ Below w'.heap.size w' w'' := fun B1 B2 B3 k1 k2 k3 w' h => by
    have := print B1 B2 B3 none k1 k2 k3 0 [exS] [exR] [] w' fitE h ex_right ex_small
    rw [ex_text] at this
    exact this
  have HR := Lib.hid hR
  have HP := Lib.hid hP
  clear hR hP
  go_enter Tryz.func16, Tryz.ntmps16
  go_wp2_with fail
  refine HC.out.mono ?_
  rintro e w1 ⟨B1, k1, B2, k2, B3, k3, rfl, hpg, hb1⟩
  have z1 := hb1.size
  have hbx := ((Below.refl w1.heap.size w1).alloc (Nat.le_refl _) (.cells #[.slice B1 1 k1, .slice B2 1 k2, .slice B3 0 k3, .slice none 0 0] 42)).alloc (by simp) (.cells #[.int .i64 0, .int .i64 0, .int .i64 0] 54)
  have HPG := Lib.hid (hpg.below hbx)
  have HB := Lib.hid (hb1.trans (hbx.mono z1))
  clear hpg hb1 hbx
  go_wp2_with fail
  refine (HR.out B1 B2 B3 k1 k2 k3 _ HPG.out).mono ?_
  rintro e w2 ⟨rfl, hb2⟩
  have hc2 : ∀ o, w2.cell? ⟨w1.heap.size, o, none⟩ = (#[.slice B1 1 k1, .slice B2 1 k2, .slice B3 0 k3, .slice none 0 0] : Array Value)[o]? := fun o => by
    rw [hb2.cell (by show w1.heap.size < ((w1.alloc _).alloc _).heap.size; simp only [World.size_alloc]; omega), World.cell?_alloc_past _ _ _ (by simp), Lib.cell_of_heap (heap_alloc_new w1 _)]
  have HPG2 := Lib.hid (HPG.out.below hb2)
  have HB2 := Lib.hid (HB.out.trans (hb2.mono HB.out.size))
  clear hb2
  go_wp2_with fail
  refine (HP.out B1 B2 B3 k1 k2 k3 _ HPG2.out).mono ?_
  rintro e w3 ⟨rfl, hb3⟩
  have hb4 := HB2.out.trans (hb3.mono HB2.out.size)
  clear hb3
  go_wp2_with fail
  go_ret
  exact ⟨rfl, hb4⟩
end Go.Proofs.YtkmonmpfbchffaaGreat.PolLw
/- The document's way to sort statements, by contract: what is wanted of its loops. -/
namespace Go.Proofs.YtkmonmpfbchffaaGreat.SynDA
set_option linter.unusedVariables false
set_option linter.unusedSimpArgs false
open Go.RowKit Go.Sort Go.Lib Go.Proofs Go.Proofs.YtkmonmpfbchffaaGreat.Plain Go.Proofs.YtkmonmpfbchffaaGreat.SynP Go.Proofs.YtkmonmpfbchffaaGreat.Grown Go.Proofs.YtkmonmpfbchffaaGreat.SynC Go.Proofs.YtkmonmpfbchffaaGreat.SynD Go.Proofs.YtkmonmpfbchffaaGreat.SynD2 Go.Proofs.YtkmonmpfbchffaaGreat.SynD3
set_option linter.unusedVariables false
set_option linter.unusedSimpArgs false
section
variable {α : Type} {c : α → α → Int}
theorem sortL_snoc [DecidableEq α] : ∀ (l acc : List α) (s : α), sortL c acc (l ++ [s]) = if s ∈ sortL c acc l then sortL c acc l else insL c s (sortL c acc l)
  | [], acc, s => rfl
  | x :: t, acc, s => by
    show sortL c _ (t ++ [s]) = _
    rw [sortL_snoc t]; rfl
theorem insL_len (s : α) : ∀ l : List α, (insL c s l).length = l.length + 1
  | [] => rfl
  | x :: t => by
    unfold insL
    split
    · rw [List.length_cons, insL_len s t]; rfl
    · rfl
theorem sortL_len [DecidableEq α] : ∀ (l acc : List α), (sortL c acc l).length ≤ acc.length + l.length
  | [], acc => by simp [sortL]
  | x :: t, acc => by
    unfold sortL
    refine Nat.le_trans (sortL_len t _) ?_
    split
    · simp
    · rw [insL_len]; simp; omega
theorem insL_at (s : α) : ∀ (l : List α) (k : Nat), k ≤ l.length → (∀ j, j < k → (h : j < l.length) → c l[j] s < 0) → ((h : k < l.length) → ¬ c l[k] s < 0) → insL c s l = l.take k ++ s :: l.drop k
  | [], k, hk, _, _ => by
    have : k = 0 := by simpa using hk
    subst this; rfl
  | x :: t, 0, _, _, h => by
    have this : ¬ c x s < 0 := h (by simp)
    unfold insL
    rw [if_neg this]; rfl
  | x :: t, k + 1, hk, h1, h2 => by
    have h0 : c x s < 0 := h1 0 (by omega) (by simp)
    unfold insL
    rw [if_pos h0, insL_at s t k (by simpa using hk) (fun j hj h => h1 (j + 1) (by omega) (by simpa using h)) (fun h => h2 (by simpa using h))]
    rfl
end
theorem own_keep {w w' : World} {base : Nat} {e : TypeId} {size : Nat} {v : Value} {n : Nat} {xs : List Value} (h : w.ownsRow base e size v n xs) (hb : Below w.heap.size w w') : w'.ownsRow base e size v n xs := by
  refine ⟨h.1, ?_⟩
  rcases h.2 with hn | ⟨g, cap, cur, rfl, hB, hg, rest⟩
  · exact .inl hn
  · exact .inr ⟨g, cap, cur, rfl, hB, (hb.block g (h.lt g rfl).2).trans hg, rest⟩
theorem own_more {w : World} {B B' : Nat} {e : TypeId} {size n : Nat} {v : Value} {xs : List Value} (h : w.ownsRow B e size v n xs) (hB : B' ≤ B) : w.ownsRow B' e size v n xs := by
  refine ⟨h.1, ?_⟩
  rcases h.2 with hn | ⟨g, cap, cur, rfl, hb, rest⟩
  · exact .inl hn
  · exact .inr ⟨g, cap, cur, rfl, by omega, rest⟩
theorem own_form {w : World} {B : Nat} {e : TypeId} {size : Nat} {v : Value} {n : Nat} {xs : List Value} (h : w.ownsRow B e size v n xs) : ∃ A c, v = .slice A n c := by
  rcases h.2 with ⟨rfl, rfl⟩ | ⟨g, cap, cur, rfl, _⟩
  · exact ⟨_, _, rfl⟩
  · exact ⟨_, _, rfl⟩
theorem step_append_from {P : Program} {ops : Array Oper} {o : Oper} {a : Act} {w : World} {K : Act → World → Prop} {Q : Exit → Act → World → Prop} {E : Prop} (hgd : o.guard = none) (s x : Operand) (t : TypeId)
    (ho : o.op = .call { callee := .builtin .append, args := #[s, x], argTypes := #[t, t] })
    (base : Nat) (e : TypeId) (i : TypeInfo) (z : Value) (size bytes : Nat) (ht : P.underlying t = some (.slice e)) (hi : P.info? e = some i) (hz : i.zero = some z)
    (hsize : i.size = size) (hby : i.bytes = bytes) (hzs : z.cells.size = size) (hsz : 0 < size) (v : Value) (n : Nat) (xs : List Value) (hs : a.eval s = v) (hown : w.ownsRow base e size v n xs)
    (A : Option Addr) (m c : Nat) (news : List Value) (hx : a.eval x = .slice A m c) (hlen : news.length = m * size) (h0 : A = none → m = 0) (hA : ∀ ad, A = some ad → ∀ j u, news[j]? = some u → w.cell? (ad.add j) = some u) (h1 : ∀ u ∈ news, u.oneCell' = true)
    (h63 : n + m ≤ maxLen) (hbytes : (n + m) * bytes ≤ 140737488355328) (hbase : base ≤ w.heap.size)
    (h : ∀ v' w', w'.ownsRow base e size v' (n + m) (xs ++ news) → w.grownBy w' v.ownBlock → K (a.put o.dst v') w') :
    if Region.wanted o (yielded ops a.tmps) = true then Oper.wp P o a w K Q else E := by
  have hw : Region.wanted o (yielded ops a.tmps) = true := by simp [Region.wanted, hgd]
  rw [if_pos hw]
  obtain ⟨v', w', hrun, h2, h3⟩ := run_append_from (P := P) w base t o.type e i z size bytes ht hi hz hsize hby hzs hsz v n xs hown A m c news hlen h0 hA h1 h63 hbytes hbase
  unfold Oper.wp
  simp [execOp, ho, resolve, invoke, builtin, hs, hx, hrun, Result.andThen]
  exact h v' w' h2 h3
/-- The row that is left behind a put. -/
theorem own_put {w : World} {B B' k : Nat} {v : Value} {M M' : List St} {s : St} (h : w.ownsRow B' 72 9 v (k + 1 + (M.length - k)) ((stCells (M.take k) ++ s.cells) ++ stCells (M.drop k))) (hk : k ≤ M.length) (hM : M' = M.take k ++ s :: M.drop k) (hB : B ≤ B') : ∃ A c, v = .slice A M'.length c ∧ w.ownsRow B 72 9 (.slice A M'.length c) M'.length (stCells M') := by
  have hl : M'.length = k + 1 + (M.length - k) := by rw [hM]; simp; omega
  have hc : stCells M' = (stCells (M.take k) ++ s.cells) ++ stCells (M.drop k) := by rw [hM, stCells_app, stCells_cons, List.append_assoc]
  rw [← hl, ← hc] at h
  obtain ⟨A, c, rfl⟩ := own_form h
  exact ⟨A, c, rfl, own_more h hB⟩
theorem take_cells (M : List St) (k : Nat) (hk : k ≤ M.length) : (stCells (M.take k)).length = k * 9 := by rw [stCells_len, List.length_take, Nat.min_eq_left hk]
theorem drop_cells (M : List St) (k : Nat) : (stCells (M.drop k)).length = (M.length - k) * 9 := by rw [stCells_len, List.length_drop]
/-- The cells of the rest of a row. -/
theorem drop_at {w : World} {g k : Nat} {M : List St} (h : ∀ j u, (stCells M)[j]? = some u → w.cell? ⟨g, j, none⟩ = some u) (hk : k ≤ M.length) : ∀ j u, (stCells (M.drop k))[j]? = some u → w.cell? ⟨g, k * 9 + j, none⟩ = some u := fun j u hu => by
  refine h _ _ ?_
  rw [show stCells M = stCells (M.take k) ++ stCells (M.drop k) by rw [← stCells_app, List.take_append_drop], List.getElem?_append_right (by rw [take_cells M k hk]; omega), take_cells M k hk, show k * 9 + j - k * 9 = j by omega]
  exact hu
theorem take_at {w : World} {g k : Nat} {M : List St} (h : ∀ j u, (stCells M)[j]? = some u → w.cell? ⟨g, j, none⟩ = some u) (hk : k ≤ M.length) : ∀ j u, (stCells (M.take k))[j]? = some u → w.cell? ⟨g, j, none⟩ = some u := fun j u hu => by
  refine h _ _ ?_
  have hj : j < (stCells (M.take k)).length := by
    rcases Nat.lt_or_ge j (stCells (M.take k)).length with h | h
    · exact h
    · rw [List.getElem?_eq_none h] at hu; cases hu
  rw [show stCells M = stCells (M.take k) ++ stCells (M.drop k) by rw [← stCells_app, List.take_append_drop], List.getElem?_append_left hj]
  exact hu
theorem at_own {w : World} {B g n c : Nat} {M : List St} (h : w.ownsRow B 72 9 (.slice (some ⟨g, 0, none⟩) n c) n (stCells M)) : ∀ j u, (stCells M)[j]? = some u → w.cell? ⟨g, j, none⟩ = some u := fun j u hu => by
  have q := h.cells (g := g) rfl j u hu
  rwa [add_off, Nat.zero_add] at q
theorem stcell_one (x : St) : ∀ v ∈ x.cells, v.oneCell' = true := fun v hv => by
  simp [St.cells] at hv
  rcases hv with rfl | rfl | rfl | rfl | rfl | rfl | rfl | rfl | rfl <;> rfl
theorem cap_le {w : World} {B n c : Nat} {A : Option Addr} {M : List St} (h : w.ownsRow B 72 9 (.slice A n c) n (stCells M)) : n ≤ c := by
  rcases h.2 with ⟨e, h0⟩ | ⟨g, cap, cur, e, hB, hh, hc, _⟩
  · omega
  · injection e with e1 e2 e3
    subst e3; exact hc
theorem own_ways {w : World} {B c : Nat} {A : Option Addr} {M : List St} (h : w.ownsRow B 72 9 (.slice A M.length c) M.length (stCells M)) : (A = none ∧ c = 0 ∧ M.length = 0) ∨ ∃ g, A = some ⟨g, 0, none⟩ := by
  rcases h.2 with ⟨e, h0⟩ | ⟨g, cap, cur, e, _⟩
  · injection e with e1 e2 e3
    exact .inl ⟨e1, e3, h0⟩
  · injection e with e1 e2 e3
    exact .inr ⟨g, e1⟩
theorem at_drop {w : World} {B k : Nat} {v : Value} {M : List St} (h : w.ownsRow B 72 9 v (M.length - k) (stCells (M.drop k))) : ∃ A c, v = .slice A (M.length - k) c ∧ StAt w A (M.drop k) := by
  have hl : (M.drop k).length = M.length - k := List.length_drop
  rw [← hl] at h
  obtain ⟨A, c, e, _, hat⟩ := StAt.of_own h
  rw [hl] at e
  exact ⟨A, c, e, hat⟩
theorem drop_new {Z : World} {B g n c k : Nat} {M : List St} {ad : Addr} (h : Z.ownsRow B 72 9 (.slice (some ⟨g, 0, none⟩) n c) n (stCells M)) (e : (some ⟨g, k * 9, none⟩ : Option Addr) = some ad) (hk : k ≤ M.length) : ∀ j u, (stCells (M.drop k))[j]? = some u → (Z.alloc (.cells #[] 72)).cell? (ad.add j) = some u := fun j u hu => by
  injection e with e
  subst e
  rw [add_off, World.cell?_alloc_past _ _ _ (h.lt g rfl).2]
  exact drop_at (at_own h) hk j u hu
theorem olds_at {X : World} {B c k : Nat} {A : Option Addr} {M : List St} {o : Obj} (h : X.ownsRow B 72 9 (.slice A M.length c) M.length (stCells M)) (hk : k ≤ M.length) : ∀ b, A = some b → ∀ j u, (stCells (M.take k))[j]? = some u → (X.drew.alloc o).cell? (b.add j) = some u := fun b e j u hu => by
  rcases own_ways h with ⟨rfl, _⟩ | ⟨g, rfl⟩
  · cases e
  · injection e with e
    subst e
    have hlt : g < X.drew.heap.size := (h.lt g rfl).2
    rw [add_off, Nat.zero_add, World.cell?_alloc_past _ _ _ hlt]
    exact take_at (at_own h) hk j u hu
theorem olds_none {X : World} {B c k : Nat} {A : Option Addr} {M : List St} (h : X.ownsRow B 72 9 (.slice A M.length c) M.length (stCells M)) (hk : k ≤ M.length) : A = none → k = 0 ∧ k = 0 := fun e => by
  rcases own_ways h with ⟨_, _, h0⟩ | ⟨g, rfl⟩
  · omega
  · cases e
theorem new_at (X : World) (s : St) : ∀ j u, s.cells[j]? = some u → (X.alloc (.cells s.cells.toArray 72)).cell? ((⟨X.heap.size, 0, none⟩ : Addr).add j) = some u := fun j u hu => by
  rw [add_off, Nat.zero_add, Lib.cell_of_heap (heap_alloc_new X _)]
  simpa using hu
theorem rest_none {w : World} {A : Option Addr} {M : List St} {k : Nat} (h : StAt w A (M.drop k)) : A = none → M.length - k = 0 := fun e => by
  rcases Nat.eq_zero_or_pos (M.drop k).length with h0 | h0
  · rwa [List.length_drop] at h0
  · obtain ⟨g, o, hA, _⟩ := h h0
    rw [hA] at e; cases e
theorem rest_at {w w4 : World} {A : Option Addr} {M : List St} {k : Nat} {o : Obj} (h : StAt w A (M.drop k)) (hg : (w.drew.alloc o).grownBy w4 none) : ∀ ad, A = some ad → ∀ j u, (stCells (M.drop k))[j]? = some u → w4.cell? (ad.add j) = some u := fun ad e j u hu => by
  have hp : 0 < (M.drop k).length := by
    rcases Nat.eq_zero_or_pos (M.drop k).length with h0 | h0
    · rw [List.eq_nil_of_length_eq_zero h0] at hu; simp [stCells] at hu
    · exact h0
  have hb : Below w.heap.size w w4 := (((Below.refl _ _).drew).alloc (Nat.le_refl _) _).grown hg (by simp) (fun _ h => by cases h)
  obtain ⟨g, o', hA, hgz, hc⟩ := h hp
  rw [hA] at e
  injection e with e
  subst e
  rw [add_off]
  exact (hb.cell (p := ⟨g, o' + j, none⟩) hgz).trans (hc j u hu)
theorem below_fin {w w3 w4 w5 : World} {o : Obj} {v : Value} {n : Nat} {xs : List Value} (hb : Below w.heap.size w w3) (hs : w.heap.size ≤ w3.heap.size) (hown : w4.ownsRow (w3.drew.alloc o).heap.size 72 9 v n xs) (hg4 : (w3.drew.alloc o).grownBy w4 none) (hg5 : w4.grownBy w5 v.ownBlock) : Below w.heap.size w w5 := by
  have h4 : Below w.heap.size w w4 := ((hb.drew).alloc (by simpa using hs) _).grown hg4 (by simp; omega) (fun _ h => by cases h)
  exact h4.grown hg5 h4.size (fun k hk => by have := (hown.lt k hk).1; simp at this; omega)
end Go.Proofs.YtkmonmpfbchffaaGreat.SynDA
/- The document's way to sort roles: what is wanted of its loops; whether a role is in a row. -/
namespace Go.Proofs.YtkmonmpfbchffaaGreat.RolA
set_option linter.unusedVariables false
set_option linter.unusedSimpArgs false
open Go.RowKit Go.Sort Go.Lib Go.Proofs Go.Proofs.YtkmonmpfbchffaaGreat.Plain Go.Proofs.YtkmonmpfbchffaaGreat.SynP Go.Proofs.YtkmonmpfbchffaaGreat.Grown Go.Proofs.YtkmonmpfbchffaaGreat.SynC Go.Proofs.YtkmonmpfbchffaaGreat.SynD Go.Proofs.YtkmonmpfbchffaaGreat.SynJ Go.Proofs.YtkmonmpfbchffaaGreat.PolA
open Go.Proofs.YtkmonmpfbchffaaGreat.SynDA (sortL_snoc insL_len sortL_len insL_at own_keep own_more own_form step_append_from)
set_option linter.unusedVariables false
set_option linter.unusedSimpArgs false
/-- A slice value's place that reads as roles. -/
def RF (w : World) (A : Option Addr) (L : List Rl) : Prop :=
  0 < L.length → ∃ g o, A = some ⟨g, o, none⟩ ∧ g < w.heap.size ∧ ∀ j u, (rcells L)[j]? = some u → w.cell? ⟨g, o + j, none⟩ = some u
theorem RF.below {w w' : World} {A : Option Addr} {L : List Rl} (h : RF w A L) (hb : Below w.heap.size w w') : RF w' A L := fun hp => by
  obtain ⟨g, o, hA, hg, hc⟩ := h hp
  exact ⟨g, o, hA, Nat.lt_of_lt_of_le hg hb.size, fun j u hu => (hb.cell (p := ⟨g, o + j, none⟩) hg).trans (hc j u hu)⟩
theorem RF.of_own {w : World} {B : Nat} {e : TypeId} {v : Value} {L : List Rl} (h : w.ownsRow B e 2 v L.length (rcells L)) : ∃ A cap, v = .slice A L.length cap ∧ L.length ≤ cap ∧ RF w A L := by
  rcases h.2 with ⟨rfl, h0⟩ | ⟨g, cap, cur, rfl, hB, hh, hc, hm, hs, ht⟩
  · exact ⟨none, 0, by rw [h0], by omega, fun hp => by omega⟩
  · refine ⟨_, _, rfl, hc, fun hp => ⟨g, 0, rfl, ?_, fun j u hu => ?_⟩⟩
    · exact (h.lt g rfl).2
    · have hj : j < (rcells L).length := by
        rcases Nat.lt_or_ge j (rcells L).length with h | h
        · exact h
        · rw [List.getElem?_eq_none h] at hu; cases hu
      rw [rcells_len] at hj
      rw [← ht, List.getElem?_take_of_lt (by omega)] at hu
      rw [Nat.zero_add, Lib.cell_of_heap hh, ← Array.getElem?_toList]
      exact hu
/-- Its two cells. -/
theorem RF.nine {w : World} {A : Option Addr} {L : List Rl} (h : RF w A L) (j : Nat) (hj : j < L.length) : ∃ g o, A = some ⟨g, o, none⟩ ∧ g < w.heap.size ∧ ∀ k u, (Rl.cells L[j])[k]? = some u → w.cell? ⟨g, o + (j * 2 + k), none⟩ = some u := by
  obtain ⟨g, o, hA, hg, hc⟩ := h (by omega)
  refine ⟨g, o, hA, hg, fun k u hu => ?_⟩
  have hk : k < 2 := by
    rcases Nat.lt_or_ge k 2 with h | h
    · exact h
    · rw [List.getElem?_eq_none (by show 2 ≤ k; exact h)] at hu; cases hu
  exact hc _ u ((rcells_get L j k hj hk).trans hu)
/-- The row that is left behind a put. -/
theorem own_put {w : World} {B B' k : Nat} {v : Value} {M M' : List Rl} {s : Rl} (h : w.ownsRow B' 23 2 v (k + 1 + (M.length - k)) ((rcells (M.take k) ++ (Rl.cells s)) ++ rcells (M.drop k))) (hk : k ≤ M.length) (hM : M' = M.take k ++ s :: M.drop k) (hB : B ≤ B') : ∃ A c, v = .slice A M'.length c ∧ w.ownsRow B 23 2 (.slice A M'.length c) M'.length (rcells M') := by
  have hl : M'.length = k + 1 + (M.length - k) := by rw [hM]; simp; omega
  have hc : rcells M' = (rcells (M.take k) ++ (Rl.cells s)) ++ rcells (M.drop k) := by rw [hM, rcells_app, rcells_cons, List.append_assoc]
  rw [← hl, ← hc] at h
  obtain ⟨A, c, rfl⟩ := own_form h
  exact ⟨A, c, rfl, own_more h hB⟩
theorem take_cells (M : List Rl) (k : Nat) (hk : k ≤ M.length) : (rcells (M.take k)).length = k * 2 := by rw [rcells_len, List.length_take, Nat.min_eq_left hk]
theorem drop_cells (M : List Rl) (k : Nat) : (rcells (M.drop k)).length = (M.length - k) * 2 := by rw [rcells_len, List.length_drop]
/-- The cells of the rest of a row. -/
theorem drop_at {w : World} {g k : Nat} {M : List Rl} (h : ∀ j u, (rcells M)[j]? = some u → w.cell? ⟨g, j, none⟩ = some u) (hk : k ≤ M.length) : ∀ j u, (rcells (M.drop k))[j]? = some u → w.cell? ⟨g, k * 2 + j, none⟩ = some u := fun j u hu => by
  refine h _ _ ?_
  rw [show rcells M = rcells (M.take k) ++ rcells (M.drop k) by rw [← rcells_app, List.take_append_drop], List.getElem?_append_right (by rw [take_cells M k hk]; omega), take_cells M k hk, show k * 2 + j - k * 2 = j by omega]
  exact hu
theorem take_at {w : World} {g k : Nat} {M : List Rl} (h : ∀ j u, (rcells M)[j]? = some u → w.cell? ⟨g, j, none⟩ = some u) (hk : k ≤ M.length) : ∀ j u, (rcells (M.take k))[j]? = some u → w.cell? ⟨g, j, none⟩ = some u := fun j u hu => by
  refine h _ _ ?_
  have hj : j < (rcells (M.take k)).length := by
    rcases Nat.lt_or_ge j (rcells (M.take k)).length with h | h
    · exact h
    · rw [List.getElem?_eq_none h] at hu; cases hu
  rw [show rcells M = rcells (M.take k) ++ rcells (M.drop k) by rw [← rcells_app, List.take_append_drop], List.getElem?_append_left hj]
  exact hu
theorem at_own {w : World} {B g n c : Nat} {M : List Rl} (h : w.ownsRow B 23 2 (.slice (some ⟨g, 0, none⟩) n c) n (rcells M)) : ∀ j u, (rcells M)[j]? = some u → w.cell? ⟨g, j, none⟩ = some u := fun j u hu => by
  have q := h.cells (g := g) rfl j u hu
  rwa [add_off, Nat.zero_add] at q
theorem stcell_one (x : Rl) : ∀ v ∈ (Rl.cells x), v.oneCell' = true := fun v hv => by
  simp [Rl.cells] at hv
  rcases hv with rfl | rfl <;> rfl
theorem cap_le {w : World} {B n c : Nat} {A : Option Addr} {M : List Rl} (h : w.ownsRow B 23 2 (.slice A n c) n (rcells M)) : n ≤ c := by
  rcases h.2 with ⟨e, h0⟩ | ⟨g, cap, cur, e, hB, hh, hc, _⟩
  · omega
  · injection e with e1 e2 e3
    subst e3; exact hc
theorem own_ways {w : World} {B c : Nat} {A : Option Addr} {M : List Rl} (h : w.ownsRow B 23 2 (.slice A M.length c) M.length (rcells M)) : (A = none ∧ c = 0 ∧ M.length = 0) ∨ ∃ g, A = some ⟨g, 0, none⟩ := by
  rcases h.2 with ⟨e, h0⟩ | ⟨g, cap, cur, e, _⟩
  · injection e with e1 e2 e3
    exact .inl ⟨e1, e3, h0⟩
  · injection e with e1 e2 e3
    exact .inr ⟨g, e1⟩
theorem at_drop {w : World} {B k : Nat} {v : Value} {M : List Rl} (h : w.ownsRow B 23 2 v (M.length - k) (rcells (M.drop k))) : ∃ A c, v = .slice A (M.length - k) c ∧ RF w A (M.drop k) := by
  have hl : (M.drop k).length = M.length - k := List.length_drop
  rw [← hl] at h
  obtain ⟨A, c, e, _, hat⟩ := RF.of_own h
  rw [hl] at e
  exact ⟨A, c, e, hat⟩
theorem drop_new {Z : World} {B g n c k : Nat} {M : List Rl} {ad : Addr} (h : Z.ownsRow B 23 2 (.slice (some ⟨g, 0, none⟩) n c) n (rcells M)) (e : (some ⟨g, k * 2, none⟩ : Option Addr) = some ad) (hk : k ≤ M.length) : ∀ j u, (rcells (M.drop k))[j]? = some u → (Z.alloc (.cells #[] 23)).cell? (ad.add j) = some u := fun j u hu => by
  injection e with e
  subst e
  rw [add_off, World.cell?_alloc_past _ _ _ (h.lt g rfl).2]
  exact drop_at (at_own h) hk j u hu
theorem olds_at {X : World} {B c k : Nat} {A : Option Addr} {M : List Rl} {o : Obj} (h : X.ownsRow B 23 2 (.slice A M.length c) M.length (rcells M)) (hk : k ≤ M.length) : ∀ b, A = some b → ∀ j u, (rcells (M.take k))[j]? = some u → (X.drew.alloc o).cell? (b.add j) = some u := fun b e j u hu => by
  rcases own_ways h with ⟨rfl, _⟩ | ⟨g, rfl⟩
  · cases e
  · injection e with e
    subst e
    have hlt : g < X.drew.heap.size := (h.lt g rfl).2
    rw [add_off, Nat.zero_add, World.cell?_alloc_past _ _ _ hlt]
    exact take_at (at_own h) hk j u hu
theorem olds_none {X : World} {B c k : Nat} {A : Option Addr} {M : List Rl} (h : X.ownsRow B 23 2 (.slice A M.length c) M.length (rcells M)) (hk : k ≤ M.length) : A = none → k = 0 ∧ k = 0 := fun e => by
  rcases own_ways h with ⟨_, _, h0⟩ | ⟨g, rfl⟩
  · omega
  · cases e
theorem new_at (X : World) (s : Rl) : ∀ j u, (Rl.cells s)[j]? = some u → (X.alloc (.cells (Rl.cells s).toArray 23)).cell? ((⟨X.heap.size, 0, none⟩ : Addr).add j) = some u := fun j u hu => by
  rw [add_off, Nat.zero_add, Lib.cell_of_heap (heap_alloc_new X _)]
  simpa using hu
theorem rest_none {w : World} {A : Option Addr} {M : List Rl} {k : Nat} (h : RF w A (M.drop k)) : A = none → M.length - k = 0 := fun e => by
  rcases Nat.eq_zero_or_pos (M.drop k).length with h0 | h0
  · rwa [List.length_drop] at h0
  · obtain ⟨g, o, hA, _⟩ := h h0
    rw [hA] at e; cases e
theorem rest_at {w w4 : World} {A : Option Addr} {M : List Rl} {k : Nat} {o : Obj} (h : RF w A (M.drop k)) (hg : (w.drew.alloc o).grownBy w4 none) : ∀ ad, A = some ad → ∀ j u, (rcells (M.drop k))[j]? = some u → w4.cell? (ad.add j) = some u := fun ad e j u hu => by
  have hp : 0 < (M.drop k).length := by
    rcases Nat.eq_zero_or_pos (M.drop k).length with h0 | h0
    · rw [List.eq_nil_of_length_eq_zero h0] at hu; simp [rcells] at hu
    · exact h0
  have hb : Below w.heap.size w w4 := (((Below.refl _ _).drew).alloc (Nat.le_refl _) _).grown hg (by simp) (fun _ h => by cases h)
  obtain ⟨g, o', hA, hgz, hc⟩ := h hp
  rw [hA] at e
  injection e with e
  subst e
  rw [add_off]
  exact (hb.cell (p := ⟨g, o' + j, none⟩) hgz).trans (hc j u hu)
theorem below_fin {w w3 w4 w5 : World} {o : Obj} {v : Value} {n : Nat} {xs : List Value} (hb : Below w.heap.size w w3) (hs : w.heap.size ≤ w3.heap.size) (hown : w4.ownsRow (w3.drew.alloc o).heap.size 23 2 v n xs) (hg4 : (w3.drew.alloc o).grownBy w4 none) (hg5 : w4.grownBy w5 v.ownBlock) : Below w.heap.size w w5 := by
  have h4 : Below w.heap.size w w4 := ((hb.drew).alloc (by simpa using hs) _).grown hg4 (by simp; omega) (fun _ h => by cases h)
  exact h4.grown hg5 h4.size (fun k hk => by have := (hown.lt k hk).1; simp at this; omega)
set_option maxHeartbeats 1000000 in
set_option maxRecDepth 100000 in
theorem hasRef (A : Option Addr) (ca : Nat) (L : List Rl) (s : Rl) (w : World) (hL : L.length ≤ 1000) (hA : RAt w A L) :
    Calls Tryz.prog 36 #[.slice A L.length ca, s.val] w fun e w' => e = .returned (.bool (decide (s ∈ L))) ∧ RowKit.Below w.heap.size w w' := by
  obtain ⟨ho, hn⟩ := s
  have hown : ∀ (wr : World), Below (w.heap.size + 1) (w.alloc (.cells #[.string ho, .string hn] 23)) wr → wr.cell? ⟨w.heap.size, 0, none⟩ = some (.string ho) ∧ wr.cell? ⟨w.heap.size, 1, none⟩ = some (.string hn) := fun wr hb => by
    refine ⟨?_, ?_⟩ <;> rw [hb.cell (by simp)] <;> rw [Lib.cell_of_heap (heap_alloc_new w _)] <;> rfl
  have HO := Lib.hid hown
  clear hown
  have HA := Lib.hid hA
  clear hA
  unfold Rl.val
  go_enter Tryz.func36, Tryz.ntmps36
  go_wp2_with fail
  go_loopw [9] (fun i wr => ∃ k : Nat, k ≤ L.length ∧ i = .int .i64 k ∧ Hid ((⟨ho, hn⟩ : Rl) ∉ L.take k) ∧ Below (w.heap.size + 1) (w.alloc (.cells #[.string ho, .string hn] 23)) wr) (fun i _ => L.length - (intOf i).toNat)
  case atStart => exact ⟨0, by omega, rfl, Lib.hid (by simp), Below.refl _ _⟩
  case round =>
    obtain ⟨k, hk, rfl, hrun, hbel⟩ := hrel
    have hb0 : Below w.heap.size w wr := ((Below.refl w.heap.size w).alloc (Nat.le_refl _) _).trans (hbel.mono (by omega))
    have hsz : w.heap.size + 1 ≤ wr.heap.size := by have := hbel.size; simpa using this
    by_cases hlt : k < L.length
    · obtain ⟨g1, rfl, hg1, h1⟩ := (HA.out.below hb0) (by omega)
      obtain ⟨a0, a1⟩ := h1 k hlt
      obtain ⟨b0, b1⟩ := HO.out _ (hbel.alloc hsz (.cells #[.string L[k].owner, .string L[k].name] 23))
      have p1 : (0 : Int) ≤ k := by omega
      have p2 : (k : Int) < L.length := by omega
      clear h1
      by_cases he : L[k] = (⟨ho, hn⟩ : Rl)
      · have hfin : Hid (decide ((⟨ho, hn⟩ : Rl) ∈ L) = true) := Lib.hid (decide_eq_true (he ▸ List.getElem_mem hlt))
        have hq := fun w => SynE.eqR L[k].owner L[k].name ho hn w
        rw [decide_eq_true (p := (⟨L[k].owner, L[k].name⟩ : Rl) = ⟨ho, hn⟩) he] at hq
        clear hrun he
        go_wp2_with fail
        go_ret
        exact ⟨ret_bool hfin.out.symm, hb0.alloc hb0.size _⟩
      · have hnext : Hid ((⟨ho, hn⟩ : Rl) ∉ L.take (k + 1)) := Lib.hid (by
          rw [List.take_succ_eq_append_getElem hlt, List.mem_append, List.mem_singleton]
          rintro (h | h)
          · exact hrun.out h
          · exact he h.symm)
        have hq := fun w => SynE.eqR L[k].owner L[k].name ho hn w
        rw [decide_eq_false (p := (⟨L[k].owner, L[k].name⟩ : Rl) = ⟨ho, hn⟩) he] at hq
        clear hrun he
        go_wp2_with fail
        go_roundw
        case rel => exact ⟨k + 1, by omega, by go_num, hnext, hbel.alloc hsz _⟩
        case measure => simp [intOf]; omega
    · have hfin : Hid (decide ((⟨ho, hn⟩ : Rl) ∈ L) = false) := Lib.hid (decide_eq_false (by
        have := hrun.out
        rwa [List.take_of_length_le (by omega)] at this))
      clear hrun
      go_wp2_with fail
      go_ret
      exact ⟨ret_bool hfin.out.symm, hb0⟩
end Go.Proofs.YtkmonmpfbchffaaGreat.RolA
