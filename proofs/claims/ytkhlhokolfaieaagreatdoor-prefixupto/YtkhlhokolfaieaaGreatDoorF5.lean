import Derived.Test.YtkhlhokolfaieaaGreatDoorF4
/-
  The law Prefix, walked: n below 0 or beyond the bytes.
-/
namespace Go.Proofs.YtkhlhokolfaieaaGreatDoor
open Go.RowKit

set_option maxHeartbeats 1600000 in
set_option maxRecDepth 100000 in
theorem prefix_low (V : Server1) (D : Hid V.Does) {B : Nat} (G : V.Begins B) (hal : Hid (∀ w, G.pre w → Calls Tryz.prog 7 #[] w fun e w' => e = .returned (.bool true) ∧ Below w.heap.size w w')) (s : ByteArray) (n : Int) (w : World) (hs : s.size ≤ 2000000) (hp : Hid (G.pre w)) (hB : B ≤ w.heap.size) (hn : n < 0) :
    Calls Tryz.prog 4 #[.string s, .int .i64 n] w fun e w' => e = .returned (.bool true) ∧ Below w.heap.size w w' := by
  obtain ⟨m, hmd⟩ : ∃ m, m = s.size / 2 := ⟨_, rfl⟩
  have hm : m ≤ s.size := by omega
  have HMD := hid hmd
  have hq : (s.size : Int) / 2 = (m : Int) := by omega
  clear hmd
  go_enter Tryz.func4, Tryz.ntmps4
  go_wp2_with fail
  refine (hal.out w hp.out).mono ?_
  rintro e w1 ⟨rfl, hb1⟩
  have HB1 := hid hb1
  have HP1 := hid (G.preBelow w w1 hp.out hb1)
  clear hb1
  go_wp2_with fail
  refine (G.news w1 HP1.out).mono ?_
  rintro e w2 ⟨S1, F1, rfl, hf1, hb2, hn1⟩
  have HF1 := hid hf1
  have HB2 := hid (HB1.out.trans (hb2.mono HB1.out.size))
  have HP2 := hid (G.preBelow w1 w2 HP1.out hb2)
  have HN1 : Hid (∀ k, F1 k → w.heap.size ≤ k) := fun k hk => Nat.le_trans HB1.out.size (hn1 k hk)
  clear hf1 hb2 hn1
  go_wp2_with fail
  refine (G.news w2 HP2.out).mono ?_
  rintro e w3 ⟨S2, F2, rfl, hf2, hb3, hn2⟩
  have HF2 := hid hf2
  have HF1' := hid (G.keepFresh F1 (fun _ => False) w2 w3 S1 HF1.out (Upd.of_below hb3) (fun _ _ h => h) (fun _ h => h.elim))
  have HB3 := hid (HB2.out.trans (hb3.mono HB2.out.size))
  have HD12 : Hid (∀ k, F1 k → ¬ F2 k) := fun k h1 h2 => by have := G.ltFresh _ _ _ HF1.out k h1; have := hn2 k h2; omega
  have HN2 : Hid (∀ k, F2 k → w.heap.size ≤ k) := fun k hk => Nat.le_trans HB2.out.size (hn2 k hk)
  clear hf2 hb3 hn2
  go_wp2_with fail
  refine (G.connect F1 w3 S1 HF1'.out).mono ?_
  rintro e w4 ⟨rfl, F1', hr1, hu1, hg1⟩
  have HR1 := hid hr1
  have HF2' := hid (G.keepFresh F2 F1 w3 w4 S2 HF2.out hu1 (fun k h2 h1 => HD12.out k h1 h2) (fun k h => Nat.le_trans hB (HN1.out k h)))
  have HB4 := hid (HB3.out.trans (hu1.of_step _ HB3.out.size HN1.out))
  have HN1' : Hid (∀ k, F1' k → w.heap.size ≤ k) := fun k hk => by
    rcases hg1 k hk with h | h
    · exact HN1.out k h
    · have := HB3.out.size; omega
  have HD12' : Hid (∀ k, F1' k → ¬ F2 k) := fun k h1 h2 => by
    rcases hg1 k h1 with h | h
    · exact HD12.out k h h2
    · have := G.ltFresh _ _ _ HF2.out k h2; omega
  clear hr1 hu1 hg1
  go_wp2_with fail
  refine (G.connect F2 w4 S2 HF2'.out).mono ?_
  rintro e w5 ⟨rfl, F2', hr2, hu2, hg2⟩
  have HR2 := hid hr2
  have HR1' := hid (G.keep F1' F2 w4 w5 S1 G.x0 HR1.out hu2 (fun k h1 h2 => HD12'.out k h1 h2) (fun k h => Nat.le_trans hB (HN2.out k h)))
  have HB5 := hid (HB4.out.trans (hu2.of_step _ HB4.out.size HN2.out))
  have HN2' : Hid (∀ k, F2' k → w.heap.size ≤ k) := fun k hk => by
    rcases hg2 k hk with h | h
    · exact HN2.out k h
    · have := HB4.out.size; omega
  have HD3 : Hid (∀ k, F1' k → ¬ F2' k) := fun k h1 h2 => by
    rcases hg2 k h2 with h | h
    · exact HD12'.out k h1 h
    · have := G.lt _ _ _ _ HR1.out k h1; omega
  clear hr2 hu2 hg2
  have hA1 := all_any V D F1' w5 S1 G.x0 (s.extract 0 m) (by rw [← size_list', extract_take, List.length_take]; rw [← size_list'] at hs; omega) HR1' (hid G.ready0)
  rw [extract_take] at hA1
  obtain ⟨r, hr⟩ := run_take V s.data.toList m G.x0
  have hA2 := fun (w6 : World) (h6 : V.rep F2' w6 S2 G.x0) => all_any V D F2' w6 S2 G.x0 s hs (hid h6) (hid G.ready0)
  rw [hr] at hA2
  have hlen : (V.run G.x0 (s.data.toList.take m)).2.length ≤ 2000000000 ∧ r.length ≤ 2000000000 := by
    have h1 := run_small V D.out s.data.toList G.x0 G.ready0
    rw [hr, List.length_append, size_list'] at h1
    omega
  generalize (V.run G.x0 (s.data.toList.take m)).2 = o1 at hA1 hA2 hlen
  obtain ⟨hl1, hl2⟩ := hlen
  have HX : Hid ((((⟨(o1 ++ r).toArray⟩ : ByteArray).extract 0 o1.length).toList == o1) = true) := by
    show _ = _
    rw [beq_iff_eq, ByteArray.toList_eq, extract_take]
    simp
  have HA1 := hid hA1
  have HA2 := hid hA2
  clear hA1 hA2 hr
  go_wp2_with fail
  refine HA1.out.mono ?_
  rintro e w6 ⟨at1, rfl, F1s, hr1, hu1, hg1⟩
  have HR2' := hid (G.keep F2' F1' w5 w6 S2 G.x0 HR2.out hu1 (fun k h2 h1 => HD3.out k h1 h2) (fun k h => Nat.le_trans hB (HN1'.out k h)))
  have HB6 := hid (HB5.out.trans (hu1.of_step _ HB5.out.size HN1'.out))
  clear hr1 hu1 hg1
  go_wp2_with fail
  refine (HA2.out w6 HR2'.out).mono ?_
  rintro e w7 ⟨at2, rfl, F2s, hr2, hu2, hg2⟩
  have HB7 := hid (HB6.out.trans (hu2.of_step _ HB6.out.size HN2'.out))
  clear hr2 hu2 hg2
  go_wp2
  go_ret
  exact ⟨congrArg (fun b => Ending.returned (.bool b)) HX.out, HB7.out⟩

set_option maxHeartbeats 1600000 in
set_option maxRecDepth 100000 in
theorem prefix_high (V : Server1) (D : Hid V.Does) {B : Nat} (G : V.Begins B) (hal : Hid (∀ w, G.pre w → Calls Tryz.prog 7 #[] w fun e w' => e = .returned (.bool true) ∧ Below w.heap.size w w')) (s : ByteArray) (n : Int) (w : World) (hs : s.size ≤ 2000000) (hp : Hid (G.pre w)) (hB : B ≤ w.heap.size) (hn : (s.size : Int) < n) :
    Calls Tryz.prog 4 #[.string s, .int .i64 n] w fun e w' => e = .returned (.bool true) ∧ Below w.heap.size w w' := by
  obtain ⟨m, hmd⟩ : ∃ m, m = s.size / 2 := ⟨_, rfl⟩
  have hm : m ≤ s.size := by omega
  have HMD := hid hmd
  have hq : (s.size : Int) / 2 = (m : Int) := by omega
  clear hmd
  go_enter Tryz.func4, Tryz.ntmps4
  go_wp2_with fail
  refine (hal.out w hp.out).mono ?_
  rintro e w1 ⟨rfl, hb1⟩
  have HB1 := hid hb1
  have HP1 := hid (G.preBelow w w1 hp.out hb1)
  clear hb1
  go_wp2_with fail
  refine (G.news w1 HP1.out).mono ?_
  rintro e w2 ⟨S1, F1, rfl, hf1, hb2, hn1⟩
  have HF1 := hid hf1
  have HB2 := hid (HB1.out.trans (hb2.mono HB1.out.size))
  have HP2 := hid (G.preBelow w1 w2 HP1.out hb2)
  have HN1 : Hid (∀ k, F1 k → w.heap.size ≤ k) := fun k hk => Nat.le_trans HB1.out.size (hn1 k hk)
  clear hf1 hb2 hn1
  go_wp2_with fail
  refine (G.news w2 HP2.out).mono ?_
  rintro e w3 ⟨S2, F2, rfl, hf2, hb3, hn2⟩
  have HF2 := hid hf2
  have HF1' := hid (G.keepFresh F1 (fun _ => False) w2 w3 S1 HF1.out (Upd.of_below hb3) (fun _ _ h => h) (fun _ h => h.elim))
  have HB3 := hid (HB2.out.trans (hb3.mono HB2.out.size))
  have HD12 : Hid (∀ k, F1 k → ¬ F2 k) := fun k h1 h2 => by have := G.ltFresh _ _ _ HF1.out k h1; have := hn2 k h2; omega
  have HN2 : Hid (∀ k, F2 k → w.heap.size ≤ k) := fun k hk => Nat.le_trans HB2.out.size (hn2 k hk)
  clear hf2 hb3 hn2
  go_wp2_with fail
  refine (G.connect F1 w3 S1 HF1'.out).mono ?_
  rintro e w4 ⟨rfl, F1', hr1, hu1, hg1⟩
  have HR1 := hid hr1
  have HF2' := hid (G.keepFresh F2 F1 w3 w4 S2 HF2.out hu1 (fun k h2 h1 => HD12.out k h1 h2) (fun k h => Nat.le_trans hB (HN1.out k h)))
  have HB4 := hid (HB3.out.trans (hu1.of_step _ HB3.out.size HN1.out))
  have HN1' : Hid (∀ k, F1' k → w.heap.size ≤ k) := fun k hk => by
    rcases hg1 k hk with h | h
    · exact HN1.out k h
    · have := HB3.out.size; omega
  have HD12' : Hid (∀ k, F1' k → ¬ F2 k) := fun k h1 h2 => by
    rcases hg1 k h1 with h | h
    · exact HD12.out k h h2
    · have := G.ltFresh _ _ _ HF2.out k h2; omega
  clear hr1 hu1 hg1
  go_wp2_with fail
  refine (G.connect F2 w4 S2 HF2'.out).mono ?_
  rintro e w5 ⟨rfl, F2', hr2, hu2, hg2⟩
  have HR2 := hid hr2
  have HR1' := hid (G.keep F1' F2 w4 w5 S1 G.x0 HR1.out hu2 (fun k h1 h2 => HD12'.out k h1 h2) (fun k h => Nat.le_trans hB (HN2.out k h)))
  have HB5 := hid (HB4.out.trans (hu2.of_step _ HB4.out.size HN2.out))
  have HN2' : Hid (∀ k, F2' k → w.heap.size ≤ k) := fun k hk => by
    rcases hg2 k hk with h | h
    · exact HN2.out k h
    · have := HB4.out.size; omega
  have HD3 : Hid (∀ k, F1' k → ¬ F2' k) := fun k h1 h2 => by
    rcases hg2 k h2 with h | h
    · exact HD12'.out k h1 h
    · have := G.lt _ _ _ _ HR1.out k h1; omega
  clear hr2 hu2 hg2
  have hA1 := all_any V D F1' w5 S1 G.x0 (s.extract 0 m) (by rw [← size_list', extract_take, List.length_take]; rw [← size_list'] at hs; omega) HR1' (hid G.ready0)
  rw [extract_take] at hA1
  obtain ⟨r, hr⟩ := run_take V s.data.toList m G.x0
  have hA2 := fun (w6 : World) (h6 : V.rep F2' w6 S2 G.x0) => all_any V D F2' w6 S2 G.x0 s hs (hid h6) (hid G.ready0)
  rw [hr] at hA2
  have hlen : (V.run G.x0 (s.data.toList.take m)).2.length ≤ 2000000000 ∧ r.length ≤ 2000000000 := by
    have h1 := run_small V D.out s.data.toList G.x0 G.ready0
    rw [hr, List.length_append, size_list'] at h1
    omega
  generalize (V.run G.x0 (s.data.toList.take m)).2 = o1 at hA1 hA2 hlen
  obtain ⟨hl1, hl2⟩ := hlen
  have HX : Hid ((((⟨(o1 ++ r).toArray⟩ : ByteArray).extract 0 o1.length).toList == o1) = true) := by
    show _ = _
    rw [beq_iff_eq, ByteArray.toList_eq, extract_take]
    simp
  have HA1 := hid hA1
  have HA2 := hid hA2
  clear hA1 hA2 hr
  go_wp2_with fail
  refine HA1.out.mono ?_
  rintro e w6 ⟨at1, rfl, F1s, hr1, hu1, hg1⟩
  have HR2' := hid (G.keep F2' F1' w5 w6 S2 G.x0 HR2.out hu1 (fun k h2 h1 => HD3.out k h1 h2) (fun k h => Nat.le_trans hB (HN1'.out k h)))
  have HB6 := hid (HB5.out.trans (hu1.of_step _ HB5.out.size HN1'.out))
  clear hr1 hu1 hg1
  go_wp2_with fail
  refine (HA2.out w6 HR2'.out).mono ?_
  rintro e w7 ⟨at2, rfl, F2s, hr2, hu2, hg2⟩
  have HB7 := hid (HB6.out.trans (hu2.of_step _ HB6.out.size HN2'.out))
  clear hr2 hu2 hg2
  go_wp2
  go_ret
  exact ⟨congrArg (fun b => Ending.returned (.bool b)) HX.out, HB7.out⟩


theorem prefix_any (V : Server1) (D : Hid V.Does) {B : Nat} (G : V.Begins B) (hal : Hid (∀ w, G.pre w → Calls Tryz.prog 7 #[] w fun e w' => e = .returned (.bool true) ∧ Below w.heap.size w w')) (s : ByteArray) (n : Int) (w : World) (hs : s.size ≤ 2000000) (hp : Hid (G.pre w)) (hB : B ≤ w.heap.size) :
    Calls Tryz.prog 4 #[.string s, .int .i64 n] w fun e w' => e = .returned (.bool true) ∧ Below w.heap.size w w' := by
  by_cases h1 : n < 0
  · exact prefix_low V D G hal s n w hs hp hB h1
  by_cases h2 : (s.size : Int) < n
  · exact prefix_high V D G hal s n w hs hp hB h2
  · obtain ⟨m, rfl⟩ := Int.eq_ofNat_of_zero_le (show 0 ≤ n by omega)
    exact prefix_ok V D G hal s m w hs hp hB (by omega)

end Go.Proofs.YtkhlhokolfaieaaGreatDoor
