import Derived.Test.YtiiapfkcmdkkoaaGreatDoorQ05
import Derived.Laws.IdiomStrings
import Derived.Laws.BytesArg
import Derived.Shelf.Strings.SlTrimAscii
import Derived.Deep.RegionWith
import Derived.Deep.DeepCutAuto
/-
  endSigns.
-/
namespace Go.Proofs.YtiiapfkcmdkkoaaGreatDoor
open Go.RowKit

theorem Tryz.und5 : Tryz.prog.underlying 5 = some (.int .u8) := by kernel_rfl
theorem Tryz.und9 : Tryz.prog.underlying 9 = some .string := by kernel_rfl

/-- 'string(b)' of a row of our own. -/
theorem row_string {w : World} {v : Value} {bs : List UInt8} (h : Row w v bs) : (convert 70 9 v).run Tryz.prog w = .ok (.string ⟨bs.toArray⟩) w := by
  rcases h.2 with ⟨rfl, h2⟩ | ⟨g, cap, cur, hv, _, hh, hnc, _, hcs, htake⟩
  · obtain rfl : bs = [] := List.eq_nil_of_length_eq_zero h2
    exact run_convert_bytes_nil (P := Tryz.prog) w 70 5 Tryz.und70 Tryz.und5 0 0 _ Tryz.und9
  · subst hv
    refine run_convert_bytes_back (P := Tryz.prog) w 70 9 5 ⟨g, 0, none⟩ cap bs Tryz.und70 Tryz.und5 Tryz.und9 ?_
    intro j hj
    have := World.ownsRow.cells h (g := g) rfl j (byteV bs[j]) (by simp [hj])
    exact this

theorem row_string' {w W : World} {v : Value} {bs : List UInt8} (h : Row w v bs) (hu : Upd (fun _ => False) w W) : (convert 70 9 v).run Tryz.prog W = .ok (.string ⟨bs.toArray⟩) W := row_string (h.keep hu (fun _ _ h => h))

theorem hexVal_le : ∀ (l : List UInt8) (n : Nat), (∀ c ∈ l, isSignB c.toNat = true) → l.foldl (fun n c => n * 16 + hexDig c) n < (n + 1) * 16 ^ l.length
  | [], n, _ => by simp
  | c :: l, n, h => by
    have hc : isSignB c.toNat = true := h c (by simp)
    have h2 : hexDig c ≤ 15 := by simp [isSignB, isDigB] at hc; unfold hexDig; split <;> (try split) <;> omega
    have h1 := hexVal_le l (n * 16 + hexDig c) (fun c hc => h c (by simp [hc]))
    simp only [List.foldl_cons, List.length_cons, Nat.pow_succ]
    refine Nat.lt_of_lt_of_le h1 ?_
    rw [Nat.mul_comm (16 ^ l.length) 16, ← Nat.mul_assoc]
    exact Nat.mul_le_mul_right _ (by omega)
theorem hexVal_lt (l : List UInt8) (h : ∀ c ∈ l, isSignB c.toNat = true) (h4 : l.length ≤ 4) : hexVal l < 65536 := by
  have := hexVal_le l 0 h
  rw [Nat.zero_add, Nat.one_mul] at this
  exact Nat.lt_of_lt_of_le this (Nat.le_trans (Nat.pow_le_pow_right (by omega) h4) (by decide))

set_option maxHeartbeats 800000 in
set_option maxRecDepth 100000 in
theorem endSigns_makes (hP : Hid ParseHex) {F : Nat → Prop} {w : World} {r : Nat} {σ : RS} {nv : Value} {R : Nat → Value} (h : Hid (RdrB F w r σ nv R)) (h1 : 1 ≤ σ.signs.length) (h4 : σ.signs.length ≤ 4) (hs : Hid (∀ c ∈ σ.signs, isSignB c.toNat = true)) (hb : σ.body.length ≤ 1000000) :
    Makes 194 #[.pointer (some ⟨r, 0, none⟩)] F w r σ.endSigns nv := by
  have hmf : ∀ (fn : Fn) (first cap : Array Value) (w : World), (Instr.makeFunc fn first cap).run Tryz.prog w = .ok (.func fn first cap) w := fun _ _ _ _ => rfl
  have c11 : w.cell? ⟨r, 11, none⟩ = some (R 11) := h.out.cell 11
  have c12 : w.cell? ⟨r, 12, none⟩ = some (R 12) := h.out.cell 12
  have hrl := lt_of_heap h.out.blk
  have hr11 : Row w (R 11) σ.signs := h.out.row 11 (by simp [IsRow])
  have hr12 : Row w (R 12) σ.body := h.out.row 12 (by simp [IsRow])
  obtain ⟨ao, cp, hv⟩ : ∃ ao cp, R 12 = .slice ao σ.body.length cp := by
    rcases hr12.form with ⟨h1, h2⟩ | ⟨g, cap, h1⟩
    · exact ⟨_, _, by rw [h1, h2]; rfl⟩
    · exact ⟨_, _, h1⟩
  rw [hv] at c12
  have hcv := row_string hr11
  generalize hx : R 11 = x at c11 hcv
  have hP' : Hid (Calls Tryz.prog 200 #[.string ⟨σ.signs.toArray⟩, .int .i64 16, .int .i64 32] w fun e w' => e = .returned (.tuple #[.int .i64 (hexVal σ.signs), .nilIface]) ∧ Upd (fun _ => False) w w') := by
    have := hP.out ⟨σ.signs.toArray⟩ w (by rw [← size_list]; simpa using h1) (by rw [← size_list]; simpa using h4) (by simpa using hs.out)
    show Calls _ _ _ _ _
    simpa using this
  have hlt := hexVal_lt σ.signs hs.out h4
  clear hr11 hr12 hv hx
  unfold Makes
  go_enter Tryz.func194, Tryz.ntmps194
  go_wp2_with fail
  refine hP'.out.mono ?_
  rintro e w1 ⟨rfl, hu⟩
  have d12 : w1.cell? ⟨r, 12, none⟩ = some (.slice ao σ.body.length cp) := (hu.cell hrl (fun h => h)).trans c12
  have HB : Hid (RdrB F w1 r σ nv R) := h.out.keep hu (fun _ _ h => h)
  have HU : Hid (Upd F w w1) := hu.mono (fun _ _ h => h.elim)
  clear hu
  by_cases h0 : hexVal σ.signs = 0
  · have HS : Hid (σ.endSigns = σ.fresh 10) := by show _ = _; unfold RS.endSigns; rw [if_pos h0]
    have e0 : ((hexVal σ.signs : Int) == 0) = true := by simp [h0]
    clear h0
    go_wp2_with fail
    refine (exactly_any _ _ _ _ _).mono ?_
    rintro e w2 ⟨rfl, rfl⟩
    go_wp2
    go_ret
    rw [HS.out]
    exact ⟨_, rfl, made_piece HB.out HU.out 10 (by omega)⟩
  have e0 : ((hexVal σ.signs : Int) == 0) = false := by rw [beq_eq_false_iff_ne]; omega
  by_cases h100 : 100 < σ.body.length + hexVal σ.signs
  · have HS : Hid (σ.endSigns = σ.failed 2) := by show _ = _; unfold RS.endSigns; rw [if_neg h0, if_pos h100]
    clear h0
    go_wp2_with fail
    refine Calls.mono (fail2_makes HB.out) ?_
    rintro e w2 ⟨sv, rfl, hm⟩
    have HM : Hid (Made F w w2 r (σ.failed 2) nv sv) := hm.from HU.out
    clear hm
    go_wp2
    go_ret
    rw [HS.out]
    exact ⟨sv, rfl, HM.out⟩
  · have HS : Hid (σ.endSigns = ({ σ with sz := hexVal σ.signs } : RS).fresh 9) := by show _ = _; unfold RS.endSigns; rw [if_neg h0, if_neg h100]
    clear h0
    go_wp2_with fail
    refine (piece_any _ _ _ _ _ _ _ _ _).mono ?_
    rintro e w2 ⟨rfl, rfl⟩
    go_wp2
    go_ret
    rw [HS.out]
    exact ⟨_, rfl, made_piece (σ := { σ with sz := hexVal σ.signs }) ({ HB.out with }) HU.out 9 (by omega)⟩

end Go.Proofs.YtiiapfkcmdkkoaaGreatDoor

/-
  endField.
-/
namespace Go.Proofs.YtiiapfkcmdkkoaaGreatDoor
open Go.RowKit

def trimL (l : List UInt8) : List UInt8 := Lib.trimS l [32, 9]
def clName : List UInt8 := [67, 111, 110, 116, 101, 110, 116, 45, 76, 101, 110, 103, 116, 104]
def teName : List UInt8 := [84, 114, 97, 110, 115, 102, 101, 114, 45, 69, 110, 99, 111, 100, 105, 110, 103]
def cnName : List UInt8 := [67, 111, 110, 110, 101, 99, 116, 105, 111, 110]
def closeL : List UInt8 := [99, 108, 111, 115, 101]

theorem ascii_all {l : List UInt8} (h : l.all (fun b => decide (b.toNat < 128)) = true) : Ascii l := fun _ b hb => of_decide_eq_true (List.all_eq_true.1 h b (List.mem_of_getElem? hb))

theorem trim_any (s : List UInt8) (w : World) (hs : s.length ≤ 1000000) :
    Calls Tryz.prog 195 #[.string ⟨s.toArray⟩, .string ⟨#[32, 9]⟩] w fun e w' => e = .returned (.string ⟨(trimL s).toArray⟩) ∧ Upd (fun _ => False) w w' := by
  have h := Any.strings_Trim_laid Tryz.lays160 (by kernel_rfl) ⟨s.toArray⟩ ⟨#[32, 9]⟩ w (by rw [← size_list]; simp; omega) (by decide) (ascii_all (by decide))
  refine Calls.mono h ?_
  rintro e w' ⟨rfl, hb⟩
  exact ⟨rfl, Upd.of_below hb⟩

theorem fold_any (s t : List UInt8) (ts : Array UInt8) (ht : ts = t.toArray) (w : World) (hs : s.length ≤ 1000000) (ha : Ascii s) (hb : Ascii t) :
    Calls Tryz.prog 196 #[.string ⟨s.toArray⟩, .string ⟨ts⟩] w fun e w' => e = .returned (.bool (Lib.equalFold s t)) ∧ w' = w := by
  subst ht
  exact Tryz.strings_EqualFold ⟨s.toArray⟩ ⟨t.toArray⟩ w (by rw [← size_list]; simp; omega) ha hb

end Go.Proofs.YtiiapfkcmdkkoaaGreatDoor

/-
  endField, walked.
-/
namespace Go.Proofs.YtiiapfkcmdkkoaaGreatDoor
open Go.RowKit

def RS.tell (σ : RS) (p : Nat × Nat) : RS := { σ with kind := if σ.kind = 0 then p.1 else 3, length := if σ.kind = 0 then p.2 else 0 }
def RS.endField (σ : RS) : RS :=
  if Lib.equalFold σ.name clName then { σ.tell (lengthSays (trimL σ.value)) with tag := 1 }
  else if Lib.equalFold σ.name teName then { σ.tell (codingSays (trimL σ.value)) with tag := 1 }
  else if Lib.equalFold σ.name cnName && Lib.equalFold (trimL σ.value) closeL then { σ with close := true, tag := 1 }
  else { σ with tag := 1 }

theorem trimL_sub (l : List UInt8) : ∀ c ∈ trimL l, c ∈ l := by
  intro c hc
  unfold trimL Lib.trimS Lib.trimLeftS Lib.trimRightS at hc
  have h1 := (List.dropWhile_sublist _).subset hc
  rw [List.mem_reverse] at h1
  have h2 := (List.dropWhile_sublist _).subset h1
  rwa [List.mem_reverse] at h2
theorem trimL_len (l : List UInt8) : (trimL l).length ≤ l.length := by
  unfold trimL Lib.trimS Lib.trimLeftS Lib.trimRightS
  refine Nat.le_trans (List.dropWhile_sublist _).length_le ?_
  rw [List.length_reverse]
  refine Nat.le_trans (List.dropWhile_sublist _).length_le ?_
  rw [List.length_reverse]
  exact Nat.le_refl _
theorem ascii_mem {l : List UInt8} : Ascii l ↔ ∀ c ∈ l, c.toNat < 128 := by
  constructor
  · intro h c hc
    obtain ⟨j, hj⟩ := List.mem_iff_getElem?.1 hc
    exact h j c hj
  · exact fun h _ b hb => h b (List.mem_of_getElem? hb)

/-- What 'tell' leaves. -/
theorem made_told {F : Nat → Prop} {w w1 w2 : World} {r : Nat} {σ : RS} {nv : Value} {R : Nat → Value} (h : RdrB F w r σ nv R) (hu : Upd (fun _ => False) w w1) (p : Nat × Nat) (o : Obj)
    (h2 : w2 = ((w1.setCell ⟨r, 9, none⟩ (.int .i64 (if (σ.kind : Int) = 0 then (p.1 : Int) else 3))).setCell ⟨r, 10, none⟩ (.int .i64 (if (σ.kind : Int) = 0 then (p.2 : Int) else 0))).alloc o) :
    RdrB F w2 r (σ.tell p) nv R ∧ Upd F w w2 := by
  have h1 := h.keep hu (fun _ _ h => h)
  have hu1 : Upd (fun k => k = r) w1 ((w1.setCell ⟨r, 9, none⟩ (.int .i64 (if (σ.kind : Int) = 0 then (p.1 : Int) else 3))).setCell ⟨r, 10, none⟩ (.int .i64 (if (σ.kind : Int) = 0 then (p.2 : Int) else 0))) := (Upd.one _ _ _ _).trans (Upd.one _ _ _ _)
  have e1 : (if (σ.kind : Int) = 0 then (p.1 : Int) else 3) = ((σ.tell p).kind : Int) := by unfold RS.tell; by_cases hk : σ.kind = 0 <;> simp [hk]
  have e2 : (if (σ.kind : Int) = 0 then (p.2 : Int) else 0) = ((σ.tell p).length : Int) := by unfold RS.tell; by_cases hk : σ.kind = 0 <;> simp [hk]
  have h3 : RdrB F ((w1.setCell ⟨r, 9, none⟩ (.int .i64 (if (σ.kind : Int) = 0 then (p.1 : Int) else 3))).setCell ⟨r, 10, none⟩ (.int .i64 (if (σ.kind : Int) = 0 then (p.2 : Int) else 0))) r (σ.tell p) nv R :=
    h1.upd hu1 (by have := heap_setCell (heap_setCell h1.blk 9 (.int .i64 (if (σ.kind : Int) = 0 then (p.1 : Int) else 3))) 10 (.int .i64 (if (σ.kind : Int) = 0 then (p.2 : Int) else 0)); rw [this, e1, e2]; simp [RS.tell]) (fun f _ => .same _ _)
  subst h2
  exact ⟨h3.keep ((Upd.refl (fun _ => False) _).alloc o) (fun _ _ h => h), (hu.mono (fun _ _ h => h.elim)).trans ((hu1.mono (by rintro k _ rfl; exact h.fr)).alloc o)⟩

theorem sizeOfLength_list (l : List UInt8) (w : World) (hl : l.length ≤ 1000000) :
    Calls Tryz.prog 198 #[.string ⟨l.toArray⟩] w fun e w' => e = .returned (.agg #[.int .i64 (lengthSays l).1, .int .i64 (lengthSays l).2]) ∧ Upd (fun _ => False) w w' := by
  refine (sizeOfLength_any ⟨l.toArray⟩ w (by rw [← size_list]; simpa using hl)).mono ?_
  rintro e w' ⟨rfl, hb⟩
  exact ⟨rfl, Upd.of_below hb⟩
theorem sizeOfCoding_list (l : List UInt8) (w : World) (hl : l.length ≤ 1000000) (ha : Hid (Ascii l)) :
    Calls Tryz.prog 199 #[.string ⟨l.toArray⟩] w fun e w' => e = .returned (.agg #[.int .i64 (codingSays l).1, .int .i64 (codingSays l).2]) ∧ Upd (fun _ => False) w w' := by
  refine (sizeOfCoding_any ⟨l.toArray⟩ w (by rw [← size_list]; simpa using hl) ha).mono ?_
  rintro e w' ⟨rfl, hb⟩
  exact ⟨rfl, Upd.of_below hb⟩
/-- EqualFold, its answer known. -/
theorem fold_is (s t : List UInt8) (ts : Array UInt8) (ht : ts = t.toArray) (hs : s.length ≤ 1000000) (ha : Ascii s) (hb : Ascii t) (b : Bool) (he : Lib.equalFold s t = b) (w : World) :
    Calls Tryz.prog 196 #[.string ⟨s.toArray⟩, .string ⟨ts⟩] w fun e w' => e = .returned (.bool b) ∧ w' = w := by
  subst he
  exact fold_any s t ts ht w hs ha hb
theorem made_close {F : Nat → Prop} {w : World} {r : Nat} {σ : RS} {nv : Value} {R : Nat → Value} (h : RdrB F w r σ nv R) : RdrB F (w.setCell ⟨r, 8, none⟩ (.bool true)) r { σ with close := true } nv R :=
  h.upd (Upd.one _ _ _ _) (by have := heap_setCell h.blk 8 (.bool true); simpa using this) (fun f _ => .same _ _)

set_option maxHeartbeats 1000000 in
set_option maxRecDepth 100000 in
theorem endField_makes {F : Nat → Prop} {w : World} {r : Nat} {σ : RS} {nv : Value} {R : Nat → Value} (h : Hid (RdrB F w r σ nv R)) (hn : σ.name.length ≤ 1000000) (hl : σ.value.length ≤ 1000000) (an : Hid (Ascii σ.name)) (av : Hid (Ascii σ.value)) :
    Makes 192 #[.pointer (some ⟨r, 0, none⟩)] F w r σ.endField nv := by
  have c6 : w.cell? ⟨r, 6, none⟩ = some (R 6) := h.out.cell 6
  have c7 : w.cell? ⟨r, 7, none⟩ = some (R 7) := h.out.cell 7
  have hrl := lt_of_heap h.out.blk
  have hr6 : Row w (R 6) σ.name := h.out.row 6 (by simp [IsRow])
  have hr7 : Row w (R 7) σ.value := h.out.row 7 (by simp [IsRow])
  have v6 := row_string' hr6 (Upd.refl _ w).drew
  have v7 := row_string' hr7 (Upd.refl _ w).drew
  have HR6 : Hid (Row w (R 6) σ.name) := hr6
  generalize R 6 = x6 at c6 v6 HR6
  generalize R 7 = x7 at c7 v7
  clear hr6 hr7
  have at_ : Hid (Ascii (trimL σ.value)) := ascii_mem.2 fun c hc => ascii_mem.1 av.out c (trimL_sub _ c hc)
  have lt_ : (trimL σ.value).length ≤ 1000000 := Nat.le_trans (trimL_len _) hl
  have HV : Hid (∃ t, t = trimL σ.value) := ⟨_, rfl⟩
  unfold Makes
  go_enter Tryz.func192, Tryz.ntmps192
  go_upto_region 1 with fail
  go_cut [3, 4] (fun n v wx => n = .string ⟨σ.name.toArray⟩ ∧ v = .string ⟨(trimL σ.value).toArray⟩ ∧ Hid (Upd (fun _ => False) w wx))
  case first =>
    go_region_with (go_at_call 195; refine (trim_any _ _ hl).mono ?_; rintro e w1 ⟨rfl, hu⟩; have hu0 : Upd (fun _ => False) w w1 := (Upd.refl _ w).drew.trans hu; have d6 : w1.cell? ⟨r, 6, none⟩ = some x6 := (hu0.cell hrl (fun h => h)).trans c6; have e6 := row_string' HR6.out hu0; have HU : Hid (Upd (fun _ => False) w w1) := hu0; clear hu hu0)
    all_goals
      go_wp2_with fail
      go_meet
      exact ⟨rfl, rfl, HU⟩
  case rest =>
    obtain ⟨rfl, rfl, hu⟩ := hcut
    have HB : Hid (RdrB F wc r σ nv R) := h.out.keep hu.out (fun _ _ h => h)
    have HU : Hid (Upd F w wc) := hu.out.mono (fun _ _ h => h.elim)
    have c9 : wc.cell? ⟨r, 9, none⟩ = some (.int .i64 σ.kind) := HB.out.cell 9
    have c10 : wc.cell? ⟨r, 10, none⟩ = some (.int .i64 σ.length) := HB.out.cell 10
    have f9 : wc.frozen? ⟨r, 9, none⟩ = false := HB.out.unfrozen 9
    have f10 : wc.frozen? ⟨r, 10, none⟩ = false := HB.out.unfrozen 10
    have c8 : wc.cell? ⟨r, 8, none⟩ = some (.bool σ.close) := HB.out.cell 8
    have f8 : wc.frozen? ⟨r, 8, none⟩ = false := HB.out.unfrozen 8
    have hrl' := lt_of_heap HB.out.blk
    clear c6 c7 v6 v7 HR6 hrl hu
    cases q1 : Lib.equalFold σ.name clName
    · have E1 : Hid (∀ W, Calls Tryz.prog 196 #[.string ⟨σ.name.toArray⟩, .string ⟨#[67, 111, 110, 116, 101, 110, 116, 45, 76, 101, 110, 103, 116, 104]⟩] W fun e w' => e = .returned (.bool false) ∧ w' = W) := fun W => fold_is σ.name clName _ rfl hn an.out (ascii_all (by decide)) false q1 W
      cases q2 : Lib.equalFold σ.name teName
      · have E2 : Hid (∀ W, Calls Tryz.prog 196 #[.string ⟨σ.name.toArray⟩, .string ⟨#[84, 114, 97, 110, 115, 102, 101, 114, 45, 69, 110, 99, 111, 100, 105, 110, 103]⟩] W fun e w' => e = .returned (.bool false) ∧ w' = W) := fun W => fold_is σ.name teName _ rfl hn an.out (ascii_all (by decide)) false q2 W
        cases q3 : Lib.equalFold σ.name cnName
        · have E3 : Hid (∀ W, Calls Tryz.prog 196 #[.string ⟨σ.name.toArray⟩, .string ⟨#[67, 111, 110, 110, 101, 99, 116, 105, 111, 110]⟩] W fun e w' => e = .returned (.bool false) ∧ w' = W) := fun W => fold_is σ.name cnName _ rfl hn an.out (ascii_all (by decide)) false q3 W
          have HS : Hid (σ.endField = { σ with tag := 1 }) := by show _ = _; unfold RS.endField; rw [q1, q2, q3]; rfl
          clear q1 q2 q3
          go_wp2_with fail
          refine (E1.out _).mono ?_
          rintro e w' ⟨rfl, hw⟩
          rw [hw]; clear hw w'
          go_wp2_with fail
          refine (E2.out _).mono ?_
          rintro e w' ⟨rfl, hw⟩
          rw [hw]; clear hw w'
          go_wp2_with fail
          refine (E3.out _).mono ?_
          rintro e w' ⟨rfl, hw⟩
          rw [hw]; clear hw w'
          go_wp2_with fail
          refine Calls.mono (readFields_makes HB.out) ?_
          rintro e w' ⟨sv, rfl, hm⟩
          have HM : Hid (Made F w w' r { σ with tag := 1 } nv sv) := hm.from HU.out
          clear hm
          go_wp2
          go_ret
          rw [HS.out]
          exact ⟨sv, rfl, HM.out⟩
        · have E3 : Hid (∀ W, Calls Tryz.prog 196 #[.string ⟨σ.name.toArray⟩, .string ⟨#[67, 111, 110, 110, 101, 99, 116, 105, 111, 110]⟩] W fun e w' => e = .returned (.bool true) ∧ w' = W) := fun W => fold_is σ.name cnName _ rfl hn an.out (ascii_all (by decide)) true q3 W
          cases q4 : Lib.equalFold (trimL σ.value) closeL
          · have E4 : Hid (∀ W, Calls Tryz.prog 196 #[.string ⟨(trimL σ.value).toArray⟩, .string ⟨#[99, 108, 111, 115, 101]⟩] W fun e w' => e = .returned (.bool false) ∧ w' = W) := fun W => fold_is (trimL σ.value) closeL _ rfl lt_ at_.out (ascii_all (by decide)) false q4 W
            have HS : Hid (σ.endField = { σ with tag := 1 }) := by show _ = _; unfold RS.endField; rw [q1, q2, q3, q4]; rfl
            clear q1 q2 q3 q4
            go_wp2_with fail
            refine (E1.out _).mono ?_
            rintro e w' ⟨rfl, hw⟩
            rw [hw]; clear hw w'
            go_wp2_with fail
            refine (E2.out _).mono ?_
            rintro e w' ⟨rfl, hw⟩
            rw [hw]; clear hw w'
            go_wp2_with fail
            refine (E3.out _).mono ?_
            rintro e w' ⟨rfl, hw⟩
            rw [hw]; clear hw w'
            go_wp2_with fail
            refine (E4.out _).mono ?_
            rintro e w' ⟨rfl, hw⟩
            rw [hw]; clear hw w'
            go_wp2_with fail
            refine Calls.mono (readFields_makes HB.out) ?_
            rintro e w' ⟨sv, rfl, hm⟩
            have HM : Hid (Made F w w' r { σ with tag := 1 } nv sv) := hm.from HU.out
            clear hm
            go_wp2
            go_ret
            rw [HS.out]
            exact ⟨sv, rfl, HM.out⟩
          · have E4 : Hid (∀ W, Calls Tryz.prog 196 #[.string ⟨(trimL σ.value).toArray⟩, .string ⟨#[99, 108, 111, 115, 101]⟩] W fun e w' => e = .returned (.bool true) ∧ w' = W) := fun W => fold_is (trimL σ.value) closeL _ rfl lt_ at_.out (ascii_all (by decide)) true q4 W
            have HS : Hid (σ.endField = { σ with close := true, tag := 1 }) := by show _ = _; unfold RS.endField; rw [q1, q2, q3, q4]; rfl
            have HC : Hid (RdrB F (wc.setCell ⟨r, 8, none⟩ (.bool true)) r { σ with close := true } nv R) := made_close HB.out
            have HW : Hid (Upd F w (wc.setCell ⟨r, 8, none⟩ (.bool true))) := HU.out.trans ((Upd.one _ _ _ _).mono (by rintro k _ rfl; exact h.out.fr))
            clear q1 q2 q3 q4
            go_wp2_with fail
            refine (E1.out _).mono ?_
            rintro e w' ⟨rfl, hw⟩
            rw [hw]; clear hw w'
            go_wp2_with fail
            refine (E2.out _).mono ?_
            rintro e w' ⟨rfl, hw⟩
            rw [hw]; clear hw w'
            go_wp2_with fail
            refine (E3.out _).mono ?_
            rintro e w' ⟨rfl, hw⟩
            rw [hw]; clear hw w'
            go_wp2_with fail
            refine (E4.out _).mono ?_
            rintro e w' ⟨rfl, hw⟩
            rw [hw]; clear hw w'
            go_wp2_with fail
            refine Calls.mono (readFields_makes HC.out) ?_
            rintro e w' ⟨sv, rfl, hm⟩
            have HM : Hid (Made F w w' r { σ with close := true, tag := 1 } nv sv) := hm.from HW.out
            clear hm
            go_wp2
            go_ret
            rw [HS.out]
            exact ⟨sv, rfl, HM.out⟩
      · have E2 : Hid (∀ W, Calls Tryz.prog 196 #[.string ⟨σ.name.toArray⟩, .string ⟨#[84, 114, 97, 110, 115, 102, 101, 114, 45, 69, 110, 99, 111, 100, 105, 110, 103]⟩] W fun e w' => e = .returned (.bool true) ∧ w' = W) := fun W => fold_is σ.name teName _ rfl hn an.out (ascii_all (by decide)) true q2 W
        have HS : Hid (σ.endField = { σ.tell (codingSays (trimL σ.value)) with tag := 1 }) := by show _ = _; unfold RS.endField; rw [q1, q2]; rfl
        clear q1 q2
        go_wp2_with fail
        refine (E1.out _).mono ?_
        rintro e w' ⟨rfl, hw⟩
        rw [hw]; clear hw w'
        go_wp2_with fail
        refine (E2.out _).mono ?_
        rintro e w' ⟨rfl, hw⟩
        rw [hw]; clear hw w'
        go_wp2_with fail
        go_region_with (first
          | (go_at_call 199; refine (sizeOfCoding_list _ _ lt_ at_).mono ?_; rintro e w2 ⟨rfl, hu2⟩; have hu3 : Upd (fun _ => False) wc w2 := (Upd.refl _ wc).drew.trans hu2; have d9 := (hu3.cell (p := ⟨r, 9, none⟩) hrl' (fun h => h)).trans c9; have d10 := (hu3.cell (p := ⟨r, 10, none⟩) hrl' (fun h => h)).trans c10; have g9 := (hu3.frozen (p := ⟨r, 9, none⟩) hrl' (fun h => h)).trans f9; have g10 := (hu3.frozen (p := ⟨r, 10, none⟩) hrl' (fun h => h)).trans f10; have hrl2 := Nat.lt_of_lt_of_le hrl' hu3.size; have HU2 : Hid (Upd (fun _ => False) wc w2) := hu3; clear hu2 hu3)
          | (go_at_call 197; refine (tell_any r _ _ _ _ _ d9 d10 g9 g10 hrl2).mono ?_; rintro e w3 ⟨rfl, o, hw3⟩; have HT : Hid (RdrB F w3 r (σ.tell (codingSays (trimL σ.value))) nv R ∧ Upd F wc w3) := made_told HB.out HU2.out _ o hw3; clear hw3))
        all_goals
          go_wp2_with fail
          refine Calls.mono (readFields_makes HT.out.1) ?_
          rintro e w' ⟨sv, rfl, hm⟩
          have HM : Hid (Made F w w' r { σ.tell (codingSays (trimL σ.value)) with tag := 1 } nv sv) := (hm.from HT.out.2).from HU.out
          clear hm
          go_wp2
          go_ret
          rw [HS.out]
          exact ⟨sv, rfl, HM.out⟩
    · have E1 : Hid (∀ W, Calls Tryz.prog 196 #[.string ⟨σ.name.toArray⟩, .string ⟨#[67, 111, 110, 116, 101, 110, 116, 45, 76, 101, 110, 103, 116, 104]⟩] W fun e w' => e = .returned (.bool true) ∧ w' = W) := fun W => fold_is σ.name clName _ rfl hn an.out (ascii_all (by decide)) true q1 W
      have HS : Hid (σ.endField = { σ.tell (lengthSays (trimL σ.value)) with tag := 1 }) := by show _ = _; unfold RS.endField; rw [q1]; rfl
      clear q1
      go_wp2_with fail
      refine (E1.out _).mono ?_
      rintro e w' ⟨rfl, hw⟩
      rw [hw]; clear hw w'
      go_wp2_with fail
      go_region_with (first
        | (go_at_call 198; refine (sizeOfLength_list _ _ lt_).mono ?_; rintro e w2 ⟨rfl, hu2⟩; have hu3 : Upd (fun _ => False) wc w2 := (Upd.refl _ wc).drew.trans hu2; have d9 := (hu3.cell (p := ⟨r, 9, none⟩) hrl' (fun h => h)).trans c9; have d10 := (hu3.cell (p := ⟨r, 10, none⟩) hrl' (fun h => h)).trans c10; have g9 := (hu3.frozen (p := ⟨r, 9, none⟩) hrl' (fun h => h)).trans f9; have g10 := (hu3.frozen (p := ⟨r, 10, none⟩) hrl' (fun h => h)).trans f10; have hrl2 := Nat.lt_of_lt_of_le hrl' hu3.size; have HU2 : Hid (Upd (fun _ => False) wc w2) := hu3; clear hu2 hu3)
        | (go_at_call 197; refine (tell_any r _ _ _ _ _ d9 d10 g9 g10 hrl2).mono ?_; rintro e w3 ⟨rfl, o, hw3⟩; have HT : Hid (RdrB F w3 r (σ.tell (lengthSays (trimL σ.value))) nv R ∧ Upd F wc w3) := made_told HB.out HU2.out _ o hw3; clear hw3))
      all_goals
        go_wp2_with fail
        refine Calls.mono (readFields_makes HT.out.1) ?_
        rintro e w' ⟨sv, rfl, hm⟩
        have HM : Hid (Made F w w' r { σ.tell (lengthSays (trimL σ.value)) with tag := 1 } nv sv) := (hm.from HT.out.2).from HU.out
        clear hm
        go_wp2
        go_ret
        rw [HS.out]
        exact ⟨sv, rfl, HM.out⟩

end Go.Proofs.YtiiapfkcmdkkoaaGreatDoor
