import Derived.Test.YtohoddhegkjehaaGreatDoorG5
import Derived.Test.YtohoddhegkjehaaGreatDoorE4
/-
  A queue of bytes: drop, isFull, admit.
-/
namespace Go.Proofs.YtohoddhegkjehaaGreatDoor
open Go.RowKit Go.MapKept

/-- A call of a function of two arguments, as one step of a region that draws. -/
theorem step_call2 {ops : Array Oper} {o : Oper} {a : Act} {w : World} {K : Act → World → Prop} {Q : Exit → Act → World → Prop} {E : Prop} {f : Nat} {v u : Value} {ts : Array TypeId} (R : Value → World → Prop)
    (hg : o.guard = none) (x y : Operand) (hop : o.op = Op.call { callee := Callee.value (.func f), args := #[x, y], argTypes := ts }) (hent : Ent f) (hx : a.eval x = v) (hy : a.eval y = u)
    (hc : Calls Tryz.prog f #[v, u] w fun e w' => ∃ r, e = .returned r ∧ R r w') (hK : ∀ r w', R r w' → K (a.put o.dst r) w') :
    if Region.wanted o (yielded ops a.tmps) = true then Oper.wp Tryz.prog o a w K Q else E := by
  have hw : Region.wanted o (yielded ops a.tmps) = true := by simp [Region.wanted, hg]
  rw [if_pos hw]
  have hrun : (execOp a.eval o).run Tryz.prog w = .ok (.enter f #[v, u]) w := by
    have hf : a.eval (.func f) = .func (.func f) #[] #[] := rfl
    have he := hent #[v, u] w
    simp [execOp, hop, resolve, invoke, hf, hx, hy, Deferred.ofValue, he]
  unfold Oper.wp
  rw [hrun, Oper.upon_enter]
  refine hc.mono ?_
  rintro e w' ⟨r, rfl, hR⟩
  exact hK r w' hR
theorem Calls.ret {f : Nat} {vs : Array Value} {w : World} {v : Value} {R : World → Prop} (h : Calls Tryz.prog f vs w fun e w' => e = .returned v ∧ R w') : Calls Tryz.prog f vs w fun e w' => ∃ r, e = .returned r ∧ (r = v ∧ R w') :=
  h.mono (by rintro e w' ⟨rfl, h⟩; exact ⟨_, rfl, rfl, h⟩)
theorem ent59 : Ent 59 := enters_of Tryz.func59 (by kernel_rfl) rfl
theorem ba_list (l : ByteArray) : (⟨l.data.toList.toArray⟩ : ByteArray) = l := by
  apply ByteArray.ext
  exact Array.toArray_toList

theorem Row.first {w : World} {ao : Option Addr} {m cp : Nat} {bs : List UInt8} (h : Row w (.slice ao m cp) bs) (n : Nat) (hn : n ≤ bs.length) : Row w (.slice ao n cp) (bs.take n) := by
  rcases h.2 with ⟨h1, h2⟩ | ⟨g, cap, cur, hv, hg, hh, hnc, hcm, hcs, htake⟩
  · have : bs = [] := List.eq_nil_of_length_eq_zero h2
    subst this
    have hn0 : n = 0 := by simpa using hn
    subst hn0
    cases h1
    exact Row.nil w
  · cases hv
    have hl : (bs.take n).length = n := by rw [List.length_take]; omega
    refine ⟨by simp, Or.inr ⟨g, cp, cur, by rw [hl], hg, hh, by rw [hl]; omega, hcm, hcs, ?_⟩⟩
    rw [hl, Nat.mul_one]
    rw [Nat.mul_one] at htake
    have := congrArg (List.take n) htake
    rw [List.take_take, Nat.min_eq_left hn] at this
    rw [this, List.map_take]

set_option maxHeartbeats 800000 in
set_option maxRecDepth 100000 in
theorem qdrop_any {w : World} {b i : Nat} {cs : Array Value} {t : TypeId} {v : Value} {bs : List UInt8} (h : Hid (Qu w b i cs t v bs)) (most : Nat) :
    Calls Tryz.prog 34 #[.pointer (some ⟨b, i, none⟩), .int .i64 most] w fun e w' => e = .returned (.string ⟨(bs.take most).toArray⟩) ∧ QAt w w' b i cs t v (bs.drop most) := by
  obtain ⟨n, hn, hn1, e1, e2⟩ : ∃ n : Nat, min (most : Int) bs.length = n ∧ n ≤ bs.length ∧ bs.take most = bs.take n ∧ bs.drop most = bs.drop n := by
    by_cases hl : most ≤ bs.length
    · exact ⟨most, by omega, hl, rfl, rfl⟩
    · exact ⟨bs.length, by omega, Nat.le_refl _, by rw [List.take_of_length_le (by omega), List.take_length], by rw [List.drop_eq_nil_of_le (by omega), List.drop_length]⟩
  rw [e1, e2]
  have HS := hid (qsize_any h)
  clear e1 e2
  go_enter Tryz.func34, Tryz.ntmps34
  go_wp2_with fail
  refine HS.out.mono ?_
  rintro e w1 ⟨rfl, hu1⟩
  have HU1 := hid hu1
  have H1 := hid (h.out.keep hu1)
  have c0 := H1.out.cell
  obtain ⟨ao, cp, hv, hcp⟩ := row_slice2 H1.out.row
  have hst := row_string (Row.first (hv ▸ H1.out.row) n hn1)
  have HD := hid (delete_front w1 v bs H1.out.row n hn1)
  subst hv
  clear hu1 HS
  go_wp2_with fail
  refine HD.out.mono ?_
  rintro e w2 ⟨v', rfl, hr2, hu2, ho2⟩
  have HE := hid (QAt.after HU1.out (QAt.of H1.out (Upd.refl _ w1) hr2 hu2 (fun k hk => Or.inl (by rw [← ho2]; exact hk))))
  have hb' : w2.heap[b]? = some (.cells cs t (0, 0)) := hu2.keep H1.out.blk H1.out.far
  have d0 : w2.cell? ⟨b, i, none⟩ = some (.slice ao bs.length cp) := (cell_of_heap hb' i).trans H1.out.at_
  have g0 : w2.frozen? ⟨b, i, none⟩ = false := unfrozen_of_heap hb' i
  obtain ⟨ao', cp', rfl⟩ := row_slice hr2
  rw [List.length_drop] at HE
  clear hr2 hu2 ho2 hb' hst HD
  go_wp2
  go_ret
  exact ⟨rfl, HE.out⟩

set_option maxHeartbeats 400000 in
theorem isFull_any {w : World} {b i : Nat} {cs : Array Value} {t : TypeId} {v : Value} {bs : List UInt8} (h : Hid (Qu w b i cs t v bs)) (hl : bs.length ≤ 1000000) :
    Calls Tryz.prog 54 #[.pointer (some ⟨b, i, none⟩)] w fun e w' => e = .returned (.bool (decide (250 ≤ bs.length))) ∧ Same w w' := by
  have HS := hid (qsize_any h)
  go_enter Tryz.func54, Tryz.ntmps54
  go_wp2_with fail
  refine HS.out.mono ?_
  rintro e w1 ⟨rfl, hu1⟩
  have HU1 := hid hu1
  clear hu1 HS
  go_wp2
  go_ret
  refine ⟨ret_bool ?_, HU1.out⟩
  simp
  omega

set_option maxHeartbeats 800000 in
set_option maxRecDepth 100000 in
theorem admit_any {w : World} {b i : Nat} {cs : Array Value} {t : TypeId} {v : Value} {bs : List UInt8} (h : Hid (Qu w b i cs t v bs)) (hl : bs.length ≤ 300) (l : ByteArray) (hb : l.size ≤ 4000000) :
    Calls Tryz.prog 57 #[.pointer (some ⟨b, i, none⟩), .string l] w fun e w' => e = .returned (.int .i64 (min l.data.toList.length (300 - bs.length) : Nat)) ∧ QAt w w' b i cs t v (bs ++ l.data.toList.take (300 - bs.length)) := by
  have HS := hid (qsize_any h)
  have HL : Hid (l.data.toList.length = l.size) := by show _ = _; rw [Array.length_toList]; rfl
  obtain ⟨n, hn, hn1, e1, e2⟩ : ∃ n : Nat, min (l.size : Int) (300 - bs.length) = n ∧ n ≤ l.size ∧ min l.data.toList.length (300 - bs.length) = n ∧ l.data.toList.take (300 - bs.length) = (l.extract 0 n).data.toList := by
    have hx : ∀ m, (l.extract 0 m).data.toList = l.data.toList.take m := fun m => by
      simp only [ByteArray.data_extract, Array.toList_extract]
      rw [List.extract_eq_take_drop]
      simp
    have := HL.out
    by_cases hc : l.size ≤ 300 - bs.length
    · exact ⟨l.size, by omega, Nat.le_refl _, by omega, by rw [hx, List.take_of_length_le (by omega), List.take_of_length_le (by omega)]⟩
    · exact ⟨300 - bs.length, by omega, by omega, by omega, by rw [hx]⟩
  rw [e1, e2]
  have hnl : n ≤ 300 := by omega
  have hex : (l.extract 0 n).data.toList.length ≤ 300 := by
    rw [← e2, List.length_take]; omega
  clear e1 e2
  go_enter Tryz.func57, Tryz.ntmps57
  go_wp2_with fail
  refine HS.out.mono ?_
  rintro e w1 ⟨rfl, hu1⟩
  have HU1 := hid hu1
  have H1 := hid (h.out.keep hu1)
  have U1 : Same w1 w1.drew := (Upd.refl _ w1).drew
  have HA := qadd_any (hid (H1.out.keep U1)) (l.extract 0 n).data.toList (by omega)
  rw [ba_list] at HA
  have HA' := hid (Calls.ret HA)
  clear hu1 HS HA
  go_wp2_with fail
  go_region_law (
    (refine step_call2 (v := .pointer (some ⟨b, i, none⟩)) (u := .string (l.extract 0 n)) _ rfl (.tmp 16) (.tmp 19) rfl ent59 rfl rfl HA'.out ?_
     rintro r w2 ⟨rfl, hq⟩
     have HE := hid (QAt.after HU1.out (QAt.after U1 hq))
     clear hq))
  all_goals
    go_wp2
    go_ret
    exact ⟨rfl, HE.out⟩

end Go.Proofs.YtohoddhegkjehaaGreatDoor
