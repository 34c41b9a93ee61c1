import Derived.Test.YtiiapfkcmdkkoaaGreatDoorQ28
import Derived.Test.YtiiapfkcmdkkoaaGreatDoorQ29
/-
  The law Prefix.
-/
namespace Go.Proofs.YtiiapfkcmdkkoaaGreatDoor
open Go.RowKit Go.MapKept

theorem size_list' (s : ByteArray) : s.data.toList.length = s.size := by rw [Array.length_toList]; rfl
theorem extract_take (s : ByteArray) (m : Nat) : (s.extract 0 m).data.toList = s.data.toList.take m := by
  simp only [ByteArray.data_extract, Array.toList_extract]
  rw [List.extract_eq_take_drop]
  simp
theorem csi_new : CsI csNew := ⟨⟨RInv.start, by decide, by decide⟩, TInv.nil, by decide⟩
/-- What fewer bytes are answered begins what more are. -/
theorem all_take (l : List UInt8) (m : Nat) : ∃ r, (allOf l).2 = (allOf (l.take m)).2 ++ r := by
  have h := run_app false (l.take m) (l.drop m) csNew rfl
  rw [List.take_append_drop] at h
  exact ⟨_, congrArg Prod.snd h⟩

set_option maxHeartbeats 3200000 in
set_option maxRecDepth 100000 in
theorem prefix_any (N : Nat) (w : World) (hT : Hid (Tb N w)) (hN : N ≤ w.heap.size) (s : ByteArray) (hs : s.size ≤ 140737488355328) (n : Int) :
    Calls Tryz.prog 5 #[.string s, .int .i64 n] w fun e w' => e = .returned (.bool true) ∧ Below w.heap.size w w' := by
  obtain ⟨m, hm, hcase⟩ : ∃ m : Nat, m ≤ s.size ∧ (n = m ∨ (n < 0 ∧ (s.size : Int) / 2 = m) ∨ (0 ≤ n ∧ (s.size : Int) < n ∧ (s.size : Int) / 2 = m)) := by
    by_cases h1 : n < 0
    · exact ⟨s.size / 2, by omega, Or.inr (Or.inl ⟨h1, by omega⟩)⟩
    by_cases h2 : (s.size : Int) < n
    · exact ⟨s.size / 2, by omega, Or.inr (Or.inr ⟨by omega, h2, by omega⟩)⟩
    · exact ⟨n.toNat, by omega, Or.inl (by omega)⟩
  have hsz : (s.extract 0 m).size ≤ 140737488355328 := by
    rw [← size_list', extract_take, List.length_take]
    rw [← size_list'] at hs
    omega
  have HXt := hid (extract_take s m)
  obtain ⟨r, hr⟩ := all_take s.data.toList m
  have hlen : (allOf (s.data.toList.take m)).2.length ≤ 28147497671065600 ∧ r.length ≤ 28147497671065600 := by
    have h1 : (allOf s.data.toList).2.length ≤ 200 * s.data.toList.length := run_len false s.data.toList csNew csi_new rfl
    rw [hr, List.length_append, size_list'] at h1
    omega
  have HR := hid hr
  clear hr
  generalize ho : (allOf (s.data.toList.take m)).2 = o1 at hlen HR
  have HO := hid ho
  obtain ⟨hl1, hl2⟩ := hlen
  have HX : Hid ((((⟨(o1 ++ r).toArray⟩ : ByteArray).extract 0 o1.length).toList == o1) = true) := by
    show _ = _
    rw [beq_iff_eq, ByteArray.toList_eq, extract_take]
    simp
  clear ho
  rcases hcase with rfl | ⟨h1, h2⟩ | ⟨h1, h2, h3⟩
  all_goals
    go_enter Tryz.func5, Tryz.ntmps5
    go_wp2_with fail
    refine (alive_any N w hT hN).mono ?_
    rintro e w1 ⟨rfl, hb1⟩
    have HB1 := hid hb1
    have HT1 := hid (hT.out.keep (hb1.mono hN))
    have hN1 : N ≤ w1.heap.size := Nat.le_trans hN hb1.size
    clear hb1
    go_wp2_with fail
    refine (new_any N w1 HT1 hN1).mono ?_
    rintro e w2 ⟨Sa, pa, rfl, ha, hu2⟩
    have HA := hid ha
    have HU2 := hid hu2
    have HT2 := hid (HT1.out.keep (hu2.below hN1 (fun _ _ h => h)))
    have hN2 : N ≤ w2.heap.size := Nat.le_trans hN1 hu2.size
    clear ha hu2
    go_wp2_with fail
    refine (new_any N w2 HT2 hN2).mono ?_
    rintro e w3 ⟨Sb, pb, rfl, hb, hu3⟩
    have H3 := hid (Two.news HB1.out HA.out HU2.out hb hu3)
    clear hb hu3 HA HU2 HB1
    go_wp2_with fail
    refine H3.out.connect.mono ?_
    rintro e w4 ⟨rfl, ca, h4⟩
    have H4 := hid h4.swap
    clear h4 H3
    go_wp2_with fail
    refine H4.out.connect.mono ?_
    rintro e w5 ⟨rfl, cb, h5⟩
    have H5 := hid h5.swap
    clear h5 H4
    go_wp2_with fail
    refine (H5.out.all (s.extract 0 m) hsz (.slice none 0 0) [] .none hN (by decide)).mono ?_
    rw [HXt.out, HO.out]
    rintro e w6 ⟨⟨n1, rfl, _⟩, h6⟩
    have H6 := hid h6.swap
    clear h6 H5
    go_wp2_with fail
    refine (H6.out.all s hs (.slice none 0 0) [] .none hN (by decide)).mono ?_
    rw [HR.out]
    rintro e w7 ⟨⟨n2, rfl, _⟩, h7⟩
    have HB := hid h7.below
    clear h7 H6
    go_wp2
    go_ret
    exact ⟨congrArg (fun b => Ending.returned (.bool b)) HX.out, HB.out⟩

end Go.Proofs.YtiiapfkcmdkkoaaGreatDoor

/-
  The statement Prefix.
-/
namespace Go.Proofs.YtiiapfkcmdkkoaaGreatDoor
open Go.RowKit Go.MapKept

theorem prefix_law : PrefixLaw := fun s n w hs ht => prefix_any w.heap.size w (hid (tb_of ht)) (Nat.le_refl _) s hs n

/-- The statement. -/
theorem prefix_full : Rows.PrefixCardSaid := prefixCard.card prefix_law

end Go.Proofs.YtiiapfkcmdkkoaaGreatDoor
