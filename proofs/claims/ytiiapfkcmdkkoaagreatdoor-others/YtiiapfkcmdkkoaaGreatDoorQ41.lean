import Derived.Test.YtiiapfkcmdkkoaaGreatDoorQ40
import Derived.Test.YtiiapfkcmdkkoaaGreatDoorQ29
import Derived.SliceStrings
import Derived.ChangeSlices
import Derived.Carry
/-
  The law Others, walked.
-/
namespace Go.Proofs.YtiiapfkcmdkkoaaGreatDoor
open Go.RowKit Go.MapKept

theorem ext_one (z : ByteArray) (k : Nat) (h : k < z.size) : (z.extract k (k + 1)).data.toList = [z[k]] := by
  rw [ba_ext0 z k 1, List.drop_eq_getElem_cons (by rw [size_list]; exact h)]
  rfl

/-- Ahead of a connection; and while its bytes come. -/
structure OAt (N : Nat) (w wr : World) (Sa : Nat) (pa : Ps) (ca Sb : Nat) (pb : Ps) : Prop where
  st : ∃ xb, Two N w wr Sb pb xb Sa pa (xNew.joined ca) ∧ Calm xb
structure IAt (N : Nat) (w wr : World) (Sa : Nat) (pa : Ps) (ca Sb : Nat) (pb : Ps) (id : Nat) (l : List UInt8) : Prop where
  st : ∃ xb, Two N w wr Sb pb xb Sa pa (xNew.joined ca) ∧ Calm xb ∧ Begun xb id l

section
variable {N : Nat} {w wr : World} {Sa Sb ca id : Nat} {pa pb : Ps} {l : List UInt8}
theorem IAt.out (h : IAt N w wr Sa pa ca Sb pb id l) : OAt N w wr Sa pa ca Sb pb := by
  obtain ⟨xb, h1, h2, _⟩ := h.st
  exact ⟨xb, h1, h2⟩
theorem OAt.below (h : OAt N w wr Sa pa ca Sb pb) : Below w.heap.size w wr := by
  obtain ⟨xb, h1, _⟩ := h.st
  exact h1.below
theorem OAt.connect (h : OAt N w wr Sa pa ca Sb pb) : Calls Tryz.prog 10 #[.pointer (some ⟨Sb, 0, none⟩)] wr fun e w' =>
    (e = .returned (.tuple #[.int .i64 0, .bool false]) ∧ OAt N w w' Sa pa ca Sb pb) ∨ (∃ id : Nat, 1 ≤ id ∧ e = .returned (.tuple #[.int .i64 id, .bool true]) ∧ IAt N w w' Sa pa ca Sb pb id []) := by
  obtain ⟨xb, h1, h2⟩ := h.st
  by_cases hm : xb.made < 4
  · refine (h1.joins h2 hm).mono ?_
    rintro e w' ⟨q1, y, q2, q3, q4, _⟩
    exact Or.inr ⟨xb.made, h2.pos, q1, y, q2, q3, q4⟩
  · refine (h1.full h2 hm).mono ?_
    rintro e w' ⟨q1, q2⟩
    exact Or.inl ⟨q1, xb, q2, h2⟩
theorem IAt.short (h : IAt N w wr Sa pa ca Sb pb id l) : l.length ≤ 2000 := by
  obtain ⟨xb, _, _, c, cx, _, _, _, _, g⟩ := h.st
  rw [← g.cnt]
  exact g.inv.count g.alive
theorem IAt.read (h : IAt N w wr Sa pa ca Sb pb id l) (s : ByteArray) (hs : s.size ≤ 2000000) : Calls Tryz.prog 18 #[.string s] wr fun e w' => e = .returned (rqV (readP s)) ∧ IAt N w w' Sa pa ca Sb pb id l := by
  obtain ⟨xb, h1, h2, h3⟩ := h.st
  refine (h1.same (R := fun e => e = .returned (rqV (readP s))) (fun F Fs hv => refRead_any s hs wr)).mono ?_
  rintro e w' ⟨q1, q2⟩
  exact ⟨q1, xb, q2, h2, h3⟩
theorem Two.stays {xa xb : Xs} {w' : World} (h : Two N w wr Sa pa xa Sb pb xb) (hu : Same wr w') : Two N w w' Sa pa xa Sb pb xb := by
  obtain ⟨Fa, Fsa, Fb, Fsb, h1, h2, h3, h4, h5⟩ := h.st
  exact ⟨⟨Fa, Fsa, Fb, Fsb, h1.same hu, h2.same hu, h3, h4, h5⟩, h.below.trans (hu.below h.below.size (fun _ _ h => h))⟩
theorem IAt.alloc (h : IAt N w wr Sa pa ca Sb pb id l) (o : Obj) : IAt N w (wr.alloc o) Sa pa ca Sb pb id l := by
  obtain ⟨xb, h1, h2, h3⟩ := h.st
  exact ⟨xb, h1.stays ((Upd.refl _ _).alloc _), h2, h3⟩
theorem IAt.byte (h : IAt N w wr Sa pa ca Sb pb id l) (hid0 : 1 ≤ id) (b : UInt8) (bs : ByteArray) (hbs : bs.data.toList = [b]) (hk : ¬ 1 < (readP (bl (l ++ [b]))).kind) :
    Calls Tryz.prog 19 #[.pointer (some ⟨Sb, 0, none⟩), .int .i64 id, .string bs] wr fun e w' => (∃ n : Nat, e = .returned (.int .i64 n)) ∧ IAt N w w' Sa pa ca Sb pb id (l ++ [b]) := by
  obtain ⟨xb, h1, h2, h3⟩ := h.st
  refine (h1.byte h2 h3 (by omega) b bs hbs hk).mono ?_
  rintro e w' ⟨q1, y, q2, q3, q4, _⟩
  exact ⟨q1, y, q2, q3, q4⟩
end

set_option maxHeartbeats 1600000 in
set_option maxRecDepth 100000 in
theorem others_any (N : Nat) (w : World) (hT : Hid (Tb N w)) (hN : N ≤ w.heap.size) (s : ByteArray) (hs : s.size ≤ 140737488355328) (v : Value) (zs : List ByteArray) (hz : Hid (StrsAt N w v zs)) (hzl : zs.length ≤ 140737488355328) (hzs : Hid (∀ z ∈ zs, z.size ≤ 9223372036854775807)) :
    Calls Tryz.prog 6 #[.string s, v] w fun e w' => e = .returned (.bool true) ∧ Below w.heap.size w w' := by
  obtain ⟨ao, cap, rfl⟩ : ∃ ao cap, v = .slice ao zs.length cap := by
    cases hz.out with
    | none => exact ⟨_, _, rfl⟩
    | some a cap zs hlt hc => exact ⟨_, _, rfl⟩
  have HCell : Hid (∀ wr, Below w.heap.size w wr → ∀ i, (hi : i < zs.length) → ∃ ad : Addr, ao = some ad ∧ wr.cell? (ad.add i) = some (.string zs[i])) := by
    intro wr hb i hi
    have hzr := hz.out.keep (hb.mono hN)
    generalize hvv : Value.slice ao zs.length cap = vv at hzr
    cases hzr with
    | none => simp at hi
    | some ad cap' zs hlt hc => injection hvv with h1 h2 h3; exact ⟨ad, h1, hc i _ (List.getElem?_eq_getElem hi)⟩
  clear hz
  go_enter Tryz.func6, Tryz.ntmps6
  go_wp2_with fail
  refine (alive_any N w hT hN).mono ?_
  rintro e w1 ⟨rfl, hb1⟩
  have HB1 := hid hb1
  have HT1 := hid (hT.out.keep (hb1.mono hN))
  have hN1 : N ≤ w1.heap.size := Nat.le_trans hN hb1.size
  clear hb1
  go_wp2_with fail
  refine (new_any N w1 HT1 hN1).mono ?_
  rintro e w2 ⟨Sa, pa, rfl, ha, hu2⟩
  have HA := hid ha
  have HU2 := hid hu2
  have HT2 := hid (HT1.out.keep (hu2.below hN1 (fun _ _ h => h)))
  have hN2 : N ≤ w2.heap.size := Nat.le_trans hN1 hu2.size
  clear ha hu2
  go_wp2_with fail
  refine (new_any N w2 HT2 hN2).mono ?_
  rintro e w3 ⟨Sb, pb, rfl, hb, hu3⟩
  have H3 := hid (Two.news HB1.out HA.out HU2.out hb hu3)
  clear hb hu3 HA HU2 HB1
  go_wp2_with fail
  refine H3.out.connect.mono ?_
  rintro e w4 ⟨rfl, ca, h4⟩
  have H4 := hid h4.swap
  clear h4 H3
  go_wp2_with fail
  refine H4.out.connect.mono ?_
  rintro e w5 ⟨rfl, cb, h5⟩
  have H5 : Hid (OAt N w w5 Sa pa ca Sb pb) := hid ⟨_, h5, calm_new cb⟩
  clear h5 H4 HT1 HT2 hT hN1 hN2
  go_wp2_with fail
  go_loopw [12] (fun iv wr => ∃ i : Nat, iv = .int .i64 i ∧ i ≤ zs.length ∧ Hid (OAt N w wr Sa pa ca Sb pb)) (fun iv _ => zs.length - (intOf iv).toNat)
  case atStart => exact ⟨0, rfl, Nat.zero_le _, H5⟩
  case round =>
    obtain ⟨i, rfl, hi, hat⟩ := hrel
    clear H5
    by_cases hlt : i < zs.length
    · go_wp2_with fail
      refine hat.out.connect.mono ?_
      clear hat
      rintro e w6 (⟨rfl, ho⟩ | ⟨id, hid1, rfl, hin⟩)
      · have HO := hid ho
        clear ho
        obtain ⟨xb, hx1, hx2⟩ := HO.out.st
        have HX := hid hx1.swap
        have HC := hid hx2
        clear hx1 hx2 HO HCell hzs
        go_wp2_with fail
        refine (HX.out.allB (calm_new ca) s hs).mono ?_
        rintro e w6 ⟨⟨n1, rfl⟩, h6⟩
        have H6 := hid h6.swap
        clear h6 HX
        go_wp2_with fail
        refine (H6.out.allB HC.out s hs).mono ?_
        rintro e w7 ⟨⟨n2, rfl⟩, h7⟩
        have H7 := hid h7.swap
        clear h7 H6
        go_wp2_with fail
        refine (Two.openB (calm_new ca) H7.out).mono ?_
        rintro e w8 ⟨rfl, h8⟩
        have H8 := hid h8.swap
        clear h8 H7
        go_wp2_with fail
        refine (Two.openB HC.out H8.out).mono ?_
        rintro e w9 ⟨rfl, h9⟩
        have HB := hid h9.below
        clear h9 H8
        go_wp2
        go_ret
        exact ⟨by first | rfl | exact ret_bool (by simp), HB.out⟩
      · have HI := hid hin
        clear hin
        obtain ⟨ad, rfl, hcell⟩ := HCell.out w6 HI.out.out.below i hlt
        have hzi := hzs.out zs[i] (List.getElem_mem hlt)
        have HC2 : Hid (∀ wr, Below w.heap.size w wr → wr.cell? (ad.add i) = some (.string zs[i])) := by
          intro wr hb
          obtain ⟨ad', e1, e2⟩ := HCell.out wr hb i hlt
          injection e1 with e1
          rw [e1]; exact e2
        clear hcell
        generalize zs[i] = z at *
        clear HCell
        have hcell := HC2.out w6 HI.out.out.below
        go_wp2_with fail
        go_loopw [15] (fun kv wi => ∃ k : Nat, kv = .int .i64 k ∧ k ≤ z.size ∧ Hid (IAt N w wi Sa pa ca Sb pb id (z.data.toList.take k))) (fun kv _ => z.size - (intOf kv).toNat)
        case atStart => exact ⟨0, rfl, Nat.zero_le _, HI⟩
        case round =>
          obtain ⟨k, rfl, hk, hin⟩ := hrel
          clear HI hcell
          have hcell := HC2.out _ hin.out.out.below
          by_cases hlt2 : k < z.size
          · go_wp2_with fail
            refine (hin.out.read (z.extract 0 (k + 1)) ?_).mono ?_
            · rw [← size_list]
              simp only [ByteArray.data_extract, Array.toList_extract]
              rw [List.extract_eq_take_drop, List.length_take, List.length_drop, size_list]
              have hsh := hin.out.short
              rw [List.length_take, size_list] at hsh
              omega
            rintro e w7 ⟨rfl, hin7⟩
            have HI7 := hid hin7
            clear hin7 hin
            have HI8 : Hid (∀ o, IAt N w (w7.alloc o) Sa pa ca Sb pb id (z.data.toList.take k)) := fun o => HI7.out.alloc o
            have hcell7 : ∀ o, (w7.alloc o).cell? (ad.add i) = some (.string z) := fun o => HC2.out _ (HI8.out o).out.below
            have HK : Hid (readP (z.extract 0 (k + 1)) = readP (bl (z.data.toList.take k ++ [z[k]]))) := by
              show _ = _
              rw [← take_snoc' z k hlt2]
              congr 1
              have := ba_ext0 z 0 (k + 1)
              rw [Nat.zero_add] at this
              rw [this]; rfl
            by_cases hkd : 1 < (readP (z.extract 0 (k + 1))).kind
            · generalize readP (z.extract 0 (k + 1)) = rr at *
              clear HK hcell
              unfold rqV
              go_wp2
              exact ⟨⟨i + 1, by go_num, by omega, hid (HI8.out _).out⟩, by simp [intOf]; omega⟩
            · have HD := hid (fun o => (HI8.out o).byte hid1 z[k] (z.extract k (k + 1)) (ext_one z k hlt2) (by rw [← HK.out]; exact hkd))
              clear HI7
              generalize readP (z.extract 0 (k + 1)) = rr at *
              unfold rqV
              go_wp2_with fail
              refine (HD.out _).mono ?_
              rintro e w8 ⟨⟨n, rfl⟩, hin8⟩
              have HI9 := hid hin8
              clear hin8 HI8 HD HK
              go_wp2
              exact ⟨⟨k + 1, by go_num, by omega, by rw [take_snoc' z k hlt2]; exact HI9⟩, by simp [intOf]; omega⟩
          · go_wp2
            exact ⟨⟨i + 1, by go_num, by omega, hid hin.out.out⟩, by simp [intOf]; omega⟩
    · have HO := hat
      clear hat
      obtain ⟨xb, hx1, hx2⟩ := HO.out.st
      have HX := hid hx1.swap
      have HC := hid hx2
      clear hx1 hx2 HO HCell hzs
      go_wp2_with fail
      refine (HX.out.allB (calm_new ca) s hs).mono ?_
      rintro e w6 ⟨⟨n1, rfl⟩, h6⟩
      have H6 := hid h6.swap
      clear h6 HX
      go_wp2_with fail
      refine (H6.out.allB HC.out s hs).mono ?_
      rintro e w7 ⟨⟨n2, rfl⟩, h7⟩
      have H7 := hid h7.swap
      clear h7 H6
      go_wp2_with fail
      refine (Two.openB (calm_new ca) H7.out).mono ?_
      rintro e w8 ⟨rfl, h8⟩
      have H8 := hid h8.swap
      clear h8 H7
      go_wp2_with fail
      refine (Two.openB HC.out H8.out).mono ?_
      rintro e w9 ⟨rfl, h9⟩
      have HB := hid h9.below
      clear h9 H8
      go_wp2
      go_ret
      exact ⟨by first | rfl | exact ret_bool (by simp), HB.out⟩

end Go.Proofs.YtiiapfkcmdkkoaaGreatDoor

/-
  From the law Others' contract to its card.
-/
namespace Go.Proofs.YtiiapfkcmdkkoaaGreatDoor
open Go.ChangeShapes Go.WideShapes Go.ChangeAt Go.RowKit

/-- The law's contract. -/
def OthersLaw : Prop := ∀ (s : ByteArray) (v : Value) (zs : List ByteArray) (w : World), s.size ≤ 140737488355328 → zs.length ≤ 140737488355328 → (∀ z ∈ zs, z.size ≤ 9223372036854775807) → StrsAt w.heap.size w v zs → TabW w → Calls Tryz.prog 6 #[.string s, v] w fun e w' => e = .returned (.bool true) ∧ Below w.heap.size w w'

namespace othersCard
theorem strs_len {H : Type} (l : List ByteArray) : (strs (H := H) l).length = l.length := by simp [strs]
theorem bytesStr : Tryz.prog.bytesOf 9 = 16 := by kernel_rfl
theorem undStrs : Tryz.prog.underlying 45 = some (.slice 9) := by kernel_rfl
theorem cellsStr : Tryz.prog.cellsOf 9 = 1 := by kernel_rfl
theorem laidOut' : laidOutB Tryz.prog = true := by kernel_rfl
set_option maxRecDepth 100000 in
theorem strs_of {H : Type} {enc : TypeId × Value → H} {W : World} {v : Value} {d : DataW H} {ps : List MemPlace} (hok : Value.okWide Tryz.prog W .any 0 45 v) (h : DataW.Trod enc Tryz.prog W 0 (fun _ => true) true 45 v d ps) (hlt : ∀ x ∈ ps, x.block < W.heap.size) (hwt : ∀ n ∈ d.weights Tryz.prog 45, n ≤ reachBytes) :
    ∃ zs : List ByteArray, StrsAt W.heap.size W v zs ∧ zs.length ≤ 140737488355328 ∧ ∀ z ∈ zs, z.size ≤ 9223372036854775807 := by
  obtain ⟨a0, len, cap, rfl⟩ := okWide_slice undStrs hok
  obtain ⟨fuel, hf⟩ := h
  rcases open_strings undStrs undStr cellsStr hf with ⟨hcs, hx⟩ | ⟨a, len', cap', zs, hcs, _, hl, hm, hz, hx, hcell, hwz⟩
  · simp [Value.cells] at hcs
    obtain ⟨rfl, rfl, rfl⟩ := hcs
    exact ⟨[], .none, Nat.zero_le _, by simp⟩
  · simp [Value.cells] at hcs
    obtain ⟨rfl, rfl, rfl⟩ := hcs
    simp only [Prod.mk.injEq] at hx
    obtain ⟨rfl, rfl⟩ := hx
    simp only [if_true] at hz
    have hlen : (zs.take len).length = len := by rw [List.length_take]; omega
    have h := hwt (((strs (H := H) (zs.take len)).length + (strs (H := H) (zs.drop len)).length) * Tryz.prog.bytesOf 9) (by first | (simp [DataW.weights]; done) | simp [DataW.weights, undStrs])
    rw [strs_len, hlen, bytesStr] at h
    have e2 := reachBytes_lt
    refine ⟨zs.take len, ?_, by omega, fun z hz' => ?_⟩
    case refine_2 =>
      have := hwz z (List.mem_of_mem_take hz')
      unfold maxLen at this
      omega
    have := StrsAt.some (B := W.heap.size) (w := W) a cap (zs.take len) (fun hpos => by
      rw [hlen] at hpos
      obtain ⟨b, off, spot⟩ := a
      exact hlt (.cell b off) (MemPlace.mem_row.2 ⟨0, by omega, by simp⟩)) (fun i z hz' => by
      have hi := (List.getElem?_eq_some_iff.1 hz').1
      rw [hlen] at hi
      have := hcell i (by omega)
      rw [this]
      rw [List.getElem?_take, if_pos hi] at hz'
      rw [List.getD, hz']; rfl)
    rw [hlen] at this
    exact this

set_option maxRecDepth 100000 in
theorem contract (hlaw : OthersLaw) (H : Type) (enc : TypeId × Value → H) (W : World) (base : Nat) (args : Array Value) (ds gs : List (DataW H)) (before : List MemPlace) (X : List TypeId)
    (hval : ∀ (j : Nat) t v, Tryz.f6.params[j]? = some t → args[j]? = some v → Value.okWide Tryz.prog W .any base t v)
    (hW : DataW.Whole enc Tryz.prog Tryz.f6.params.toList Rows.othersSpec.vars false W args.toList ds gs before) (hL : laidMetH Tryz.prog Rows.othersRow.laid W) (hwt : (DataW.weightsEach Tryz.prog (Tryz.f6.params.toList ++ X) (ds ++ gs)).all (· ≤ reachBytes) = true) :
    Calls Tryz.prog 6 args W fun e W' => ∃ v, e = .returned v ∧ Rows.othersSpec.post enc Tryz.prog Tryz.f6 false true false false W args v W' := by
  have hW' := hW
  obtain ⟨p, q, hA0, hV, rfl, hfz, hnd⟩ := hW
  have hA : DataW.TrodAll enc Tryz.prog W 0 (fun _ => true) true Tryz.f6.params.toList args.toList ds p := hA0
  rw [Tryz.params6] at hA hval hwt
  obtain ⟨v0, vs0, d0, ds0, p0, q0, hargs, rfl, rfl, h0, r0⟩ := trodAll_cons hA
  obtain ⟨v1, vs1, d1, ds1, p1, q1, hargs1, rfl, rfl, h1, r1⟩ := trodAll_cons r0
  obtain ⟨rfl, rfl, rfl⟩ := trodAll_nil r1
  obtain rfl : args = #[v0, v1] := by cases args; simp_all
  obtain ⟨rfl, rfl⟩ := trodVars_none hV
  obtain ⟨s, rfl, rfl, rfl, hs⟩ := ChangeMaps.open_string undStr (hval 0 9 v0 rfl rfl) h0
  have hlt : ∀ x ∈ p1, x.block < W.heap.size := fun x hx => by simpa using hW'.lt x (by simp [hx])
  obtain ⟨zs, hzs, hzl, hzz⟩ := strs_of (hval 1 45 v1 rfl rfl) h1 hlt (fun n hn => by simpa using List.all_eq_true.1 hwt n (DataW.weights_mem_each (j := 1) rfl rfl n hn))
  clear hA0
  have hbk : s.size ≤ 140737488355328 := by
    have h := sized_string (j := 0) (t := 9) (bytes := s.data.toList) hwt rfl rfl
    have e : s.data.toList.length = s.size := by rw [Array.length_toList]; rfl
    have e2 := reachBytes_lt
    omega
  simp only [List.append_nil] at hW'
  refine (hlaw s v1 zs W hbk hzl hzz hzs (table hL)).mono fun e W' ⟨he, hg⟩ => ?_
  subst he
  exact ⟨_, rfl, ⟨_, _, _, [], _, [], hW', trodAll_mk1 (shut_bool undBool _), trodAll_mk2 (ChangeMaps.shut_string undStr hs) (Below.trod laidOut' (by kernel_rfl) (of_decide_eq_true (by kernel_rfl)) h1 hg hlt), rfl, hg.frame _, fun h => by cases h⟩⟩

/-- A world for the witness: the settled one, the three tables holding what their initialisers lay. -/
noncomputable def laidWorld (os : Os) : World :=
  { World.holding Tryz.prog os ⟨#[], #[], []⟩ with heap := ((((World.holding Tryz.prog os ⟨#[], #[], []⟩).heap.modify 0 (prefixCard.setTab prefixCard.tabLim)).modify 1 (prefixCard.setTab (Lib.pow10Tab.map (Value.int .u64)).toArray)).modify 2 (prefixCard.setTab prefixCard.tab32)).modify 3 (prefixCard.setTab prefixCard.tab64) }
theorem laid_met (os : Os) : laidMet Tryz.prog Rows.othersRow.laid ((laidWorld os).forCall (fun _ _ => 0) ⟨#[], #[.string ⟨#[]⟩, .slice none 0 0], []⟩).memory :=
  laidMet_of_run' 8 (by kernel_rfl) (by kernel_rfl)
theorem reads (os : Os) {H : Type} (enc : TypeId × Value → H) : ∃ places, DataW.whole enc Tryz.prog ((laidWorld os).forCall (fun _ _ => 0) ⟨#[], #[.string ⟨#[]⟩, .slice none 0 0], []⟩).memory Tryz.f6.params.toList Rows.othersSpec.vars false #[Value.string ⟨#[]⟩, .slice none 0 0].toList 8 = some ([.lit (.string []), .nil], [], places) :=
  ⟨[], by kernel_rfl⟩

set_option maxRecDepth 100000 in
theorem lifted (hlaw : OthersLaw) (os : Os) (started : os.Started) (H : Type) (enc : TypeId × Value → H) (F : Stop.Interp) :
    ReturnsInHanded {} Tryz.checked os 6 .any ((OpenSpec.ofChange Rows.othersSpec).preRow enc Tryz.prog Tryz.f6 Rows.othersRow.domain false Rows.othersRow.laid) (((OpenSpec.ofChange Rows.othersSpec).at F).post enc Tryz.prog Tryz.f6 false true false false) := by
  obtain ⟨places, hx⟩ := reads os enc
  refine returnsInHanded_of_row (C := Tryz.checked) (s := OpenSpec.ofChange Rows.othersSpec) own started (by kernel_rfl) Tryz.func6
    (witness_row_at (enc := enc) (C := Tryz.checked) false (laidWorld os) #[.string ⟨#[]⟩, .slice none 0 0] rfl (by kernel_rfl) (by kernel_rfl) (by kernel_rfl)
      (OpenSpec.preRow_of_cond 8 hx (by kernel_rfl) (fun k hk => by cases hk) (by kernel_rfl) (laid_met os))) ?_
  intro W base args ds gs before hval hW _ _ hsz hL _ _
  exact contract hlaw H enc W base args ds gs before _ hval hW hL hsz

theorem said (hlaw : OthersLaw) : Rows.OthersSaid :=
  OpenClaim.holds_of_cond 6 Tryz.f6 rfl rfl rfl rfl rfl rfl rfl ⟨rfl, rfl, rfl, rfl, rfl⟩ rfl rfl rfl rfl rfl (by kernel_rfl) Tryz.func6 (by kernel_rfl)
    (of_decide_eq_true (by kernel_rfl)) (by unfold Func.isWrapper; first | (rw [if_pos (by decide +kernel)]; kernel_rfl) | (rw [if_neg (by decide +kernel)]; exact ⟨rfl, rfl⟩))
    (fun os started H enc _ F => by rw [OpenClaim.pre_eq_preRow]; exact lifted hlaw os started H enc F)

theorem plain (f : FuncId) (fn : Func) (hf : Tryz.pinned.checked.prog.funcNamed "hearth/hearthlaw.Others" = some f) (hfn : Tryz.pinned.checked.prog.funcs[f]? = some fn) :
    true = Tryz.pinned.checked.prog.looks [] ∧ ∀ (j : Nat) t, fn.params[j]? = some t → Tryz.pinned.checked.prog.wantsStandIn t = false := by
  obtain rfl : f = 6 := Option.some.inj ((show Tryz.prog.funcNamed "hearth/hearthlaw.Others" = some 6 by kernel_rfl).symm.trans hf) |>.symm
  obtain rfl : fn = Tryz.f6 := (Option.some.inj (Tryz.func6.symm.trans hfn)).symm
  refine ⟨by kernel_rfl, fun j t ht => ?_⟩
  rw [Tryz.params6] at ht
  have hm := Array.mem_of_getElem? ht
  have ht' : t = 9 ∨ t = 45 := by simpa using hm
  rcases ht' with rfl | rfl
  · exact (show Tryz.prog.wantsStandIn 9 = false by kernel_rfl)
  · exact (show Tryz.prog.wantsStandIn 45 = false by kernel_rfl)

/-- The card. -/
theorem card (hlaw : OthersLaw) : Rows.OthersCardSaid :=
  tied_goes _ _ _ (said hlaw) (by kernel_rfl) others_row_tie rfl ⟨rfl, rfl⟩ (by kernel_rfl) plain (by kernel_rfl)
end othersCard

end Go.Proofs.YtiiapfkcmdkkoaaGreatDoor

/-
  The statement Others.
-/
namespace Go.Proofs.YtiiapfkcmdkkoaaGreatDoor
open Go.RowKit Go.MapKept

theorem others_law : OthersLaw := fun s v zs w hs hl hzz hz ht => others_any w.heap.size w (hid (tb_of ht)) (Nat.le_refl _) s hs v zs (hid hz) hl (hid hzz)

/-- The statement. -/
theorem others_full : Rows.OthersCardSaid := othersCard.card others_law

end Go.Proofs.YtiiapfkcmdkkoaaGreatDoor
