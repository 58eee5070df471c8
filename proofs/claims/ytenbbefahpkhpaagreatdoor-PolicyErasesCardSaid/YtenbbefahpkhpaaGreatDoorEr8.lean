/- Texts of the proof, merged: Er20FT, Er20TF, Er20TT, PoErasesW, Frame, LbOpen, NumOpen, PoRow, LbLaid, EvLaid. -/
import Derived.Test.YtenbbefahpkhpaaGreatDoorEr1
import Derived.Test.YtenbbefahpkhpaaGreatDoorEr4
import Derived.Test.YtenbbefahpkhpaaGreatDoorEr5
import Derived.Test.YtenbbefahpkhpaaGreatDoorEr6
import Derived.Test.YtenbbefahpkhpaaGreatDoorEr7
import Derived.Deep.DeepCutAuto
import Derived.OpenVars
import Derived.ProofKit
import Derived.SizedLaws
import Derived.OpenShut
import Derived.ChangeSlices
import Derived.Test.YtenbbefahpkhpaaGreatDoorRows
import Derived.Lib.LaidTab
import Derived.LaidSub
import Derived.LaidMore
import Derived.MakeChecks
import Derived.Deep.DeepHandedRow
/- A drawn region of PolicyErases, walked. -/
namespace Go.Proofs.YtenbbefahpkhpaaGreatDoor
open Go Go.RowKit

set_option maxRecDepth 100000 in
set_option maxHeartbeats 8000000 in
theorem reg20FT (s0 s3 s4 s5 s6 s9 s10 s11 s12 s14 s15 s16 s17 s18 s19 s20 s21 s22 s23 s24 s25 s26 s27 s28 s29 s30 s31 s32 s33 s34 s35 s36 s37 s38 s39 s40 s41 s42 s43 s44 s45 s46 s47 s48 s49 s50 s51 s52 s53 s54 s55 s56 s57 s58 s59 s60 s61 s62 s63 s64 s65 s66 s67 s68 s69 s70 s71 s72 s73 s74 s75 s76 s77 s78 s79 s80 s81 s82 s83 s84 s85 s86 s87 s88 s89 s90 s91 s92 s93 s94 s95 s96 s97 s98 s99 s100 s101 s102 s103 s104 s105 s106 s107 s108 s109 s110 s111 s112 s113 s114 s115 s116 s117 s118 s119 s120 s121 s122 s123 s124 s125 s126 s127 s128 s129 s130 s131 s132 s133 s134 s135 s136 s137 s138 s139 s140 s141 s142 s143 s144 s145 s146 s147 s148 s149 s150 s151 s152 s153 s154 s155 s156 s157 s158 s159 s160 s161 s162 s163 s164 s165 s166 s167 s168 s169 s170 s171 s172 s173 s174 s175 s176 s177 s178 s179 s180 s181 s182 s183 s184 s185 s186 s187 s188 s189 s190 s191 s192 s193 s194 s195 s196 s197 s198 s199 s200 s201 s202 s203 s204 s205 s206 s207 s208 s209 : Value) (wr : World) (b1 o1 k m c2 : Nat) (x : Vw) (aP : Addr) (c d eith both : Nat) (w0 : World) (hor : bits .or .u64 (c : Nat) (d : Nat) = (eith : Nat)) (hand : bits .and .u64 (c : Nat) (d : Nat) = (both : Nat)) (ns5 : List (List UInt8)) (a5 : ∀ W, Below wr.heap.size wr W → Calls Tryz.prog 13 #[.pointer (some aP), .int .u64 (eith : Nat)] W (GivesNm W ns5)) (e5 : ∀ W q k, NmRow W q ns5 → Calls Tryz.prog 25 #[.slice q ns5.length k, .string (bs x.s)] W fun e w' => e = .returned (.bool false) ∧ W = w') (ns6 : List (List UInt8)) (a6 : ∀ W, Below wr.heap.size wr W → Calls Tryz.prog 12 #[.pointer (some aP), .int .u64 (both : Nat)] W (GivesNm W ns6)) (e6 : ∀ W q k, NmRow W q ns6 → Calls Tryz.prog 25 #[.slice q ns6.length k, .string (bs x.s)] W fun e w' => e = .returned (.bool true) ∧ W = w') (ns1 : List (List UInt8)) (a1 : ∀ W, Below wr.heap.size wr W → Calls Tryz.prog 12 #[.pointer (some aP), .int .u64 (c : Nat)] W (GivesNm W ns1)) (e1 : ∀ W q k, NmRow W q ns1 → Calls Tryz.prog 25 #[.slice q ns1.length k, .string (bs x.s)] W fun e w' => e = .returned (.bool true) ∧ W = w')
    (hk0 : (0 : Int) ≤ (k : Int)) (hkI : (k : Int) < (m : Int)) (HST : Stay wr b1 (o1 + k * 2) x.s w0) (QQ : Exit → Act → World → Prop)
    (hend : ∀ (v162 v163 v164 v165 v166 v167 v168 v169 v170 v171 v172 v173 v174 v175 v176 v177 v178 v179 v180 v181 v182 v183 v184 v185 v186 v187 v188 v189 v190 v191 v192 v193 v194 v195 v196 v197 v198 v199 v200 v201 v202 v203 v204 v205 v206 v207 v208 : Value) (w' : World), Stay wr b1 (o1 + k * 2) x.s w' → QQ .normal ⟨List.toArray (s0 :: (.int .u64 (c : Nat)) :: (.int .u64 (d : Nat)) :: s3 :: s4 :: s5 :: s6 :: (.slice (some ⟨b1, o1, none⟩) m c2) :: (.pointer (some aP)) :: s9 :: s10 :: s11 :: s12 :: (.int .i64 (k : Nat)) :: s14 :: s15 :: s16 :: s17 :: s18 :: s19 :: s20 :: s21 :: s22 :: s23 :: s24 :: s25 :: s26 :: s27 :: s28 :: s29 :: s30 :: s31 :: s32 :: s33 :: s34 :: s35 :: s36 :: s37 :: s38 :: s39 :: s40 :: s41 :: s42 :: s43 :: s44 :: s45 :: s46 :: s47 :: s48 :: s49 :: s50 :: s51 :: s52 :: s53 :: s54 :: s55 :: s56 :: s57 :: s58 :: s59 :: s60 :: s61 :: s62 :: s63 :: s64 :: s65 :: s66 :: s67 :: s68 :: s69 :: s70 :: s71 :: s72 :: s73 :: s74 :: s75 :: s76 :: s77 :: s78 :: s79 :: s80 :: s81 :: s82 :: s83 :: s84 :: s85 :: s86 :: s87 :: s88 :: s89 :: s90 :: s91 :: s92 :: s93 :: s94 :: s95 :: s96 :: s97 :: s98 :: s99 :: s100 :: s101 :: s102 :: s103 :: s104 :: s105 :: s106 :: s107 :: s108 :: s109 :: s110 :: s111 :: s112 :: s113 :: s114 :: s115 :: s116 :: s117 :: s118 :: s119 :: s120 :: s121 :: s122 :: s123 :: s124 :: s125 :: s126 :: s127 :: s128 :: s129 :: s130 :: s131 :: s132 :: s133 :: s134 :: s135 :: s136 :: s137 :: s138 :: s139 :: s140 :: s141 :: s142 :: s143 :: s144 :: s145 :: s146 :: s147 :: s148 :: s149 :: s150 :: s151 :: s152 :: s153 :: s154 :: s155 :: s156 :: s157 :: s158 :: s159 :: s160 :: s161 :: v162 :: v163 :: v164 :: v165 :: v166 :: v167 :: v168 :: v169 :: v170 :: v171 :: v172 :: v173 :: v174 :: v175 :: v176 :: v177 :: v178 :: v179 :: v180 :: v181 :: v182 :: v183 :: v184 :: v185 :: v186 :: v187 :: v188 :: v189 :: v190 :: v191 :: v192 :: v193 :: v194 :: v195 :: v196 :: v197 :: v198 :: v199 :: v200 :: v201 :: v202 :: v203 :: v204 :: v205 :: v206 :: v207 :: v208 :: (.bool false) :: []), []⟩ w') :
    (Code.region 20 er20.toArray true).wp Tryz.prog QQ ⟨List.toArray (s0 :: (.int .u64 (c : Nat)) :: (.int .u64 (d : Nat)) :: s3 :: s4 :: s5 :: s6 :: (.slice (some ⟨b1, o1, none⟩) m c2) :: (.pointer (some aP)) :: s9 :: s10 :: s11 :: s12 :: (.int .i64 (k : Nat)) :: s14 :: s15 :: s16 :: s17 :: s18 :: s19 :: s20 :: s21 :: s22 :: s23 :: s24 :: s25 :: s26 :: s27 :: s28 :: s29 :: s30 :: s31 :: s32 :: s33 :: s34 :: s35 :: s36 :: s37 :: s38 :: s39 :: s40 :: s41 :: s42 :: s43 :: s44 :: s45 :: s46 :: s47 :: s48 :: s49 :: s50 :: s51 :: s52 :: s53 :: s54 :: s55 :: s56 :: s57 :: s58 :: s59 :: s60 :: s61 :: s62 :: s63 :: s64 :: s65 :: s66 :: s67 :: s68 :: s69 :: s70 :: s71 :: s72 :: s73 :: s74 :: s75 :: s76 :: s77 :: s78 :: s79 :: s80 :: s81 :: s82 :: s83 :: s84 :: s85 :: s86 :: s87 :: s88 :: s89 :: s90 :: s91 :: s92 :: s93 :: s94 :: s95 :: s96 :: s97 :: s98 :: s99 :: s100 :: s101 :: s102 :: s103 :: s104 :: s105 :: s106 :: s107 :: s108 :: s109 :: s110 :: s111 :: s112 :: s113 :: s114 :: s115 :: s116 :: s117 :: s118 :: s119 :: s120 :: s121 :: s122 :: s123 :: s124 :: s125 :: s126 :: s127 :: s128 :: s129 :: s130 :: s131 :: s132 :: s133 :: s134 :: s135 :: s136 :: s137 :: s138 :: s139 :: s140 :: s141 :: s142 :: s143 :: s144 :: s145 :: s146 :: s147 :: s148 :: s149 :: s150 :: s151 :: s152 :: s153 :: s154 :: s155 :: s156 :: s157 :: s158 :: s159 :: s160 :: s161 :: s162 :: s163 :: s164 :: s165 :: s166 :: s167 :: s168 :: s169 :: s170 :: s171 :: s172 :: s173 :: s174 :: s175 :: s176 :: s177 :: s178 :: s179 :: s180 :: s181 :: s182 :: s183 :: s184 :: s185 :: s186 :: s187 :: s188 :: s189 :: s190 :: s191 :: s192 :: s193 :: s194 :: s195 :: s196 :: s197 :: s198 :: s199 :: s200 :: s201 :: s202 :: s203 :: s204 :: s205 :: s206 :: s207 :: s208 :: s209 :: []), []⟩ w0 := by
  have A1 : Aside _ := a1
  have E1 : Aside _ := e1
  clear a1 e1
  have A5 : Aside _ := a5
  have E5 : Aside _ := e5
  clear a5 e5
  have A6 : Aside _ := a6
  have E6 : Aside _ := e6
  clear a6 e6
  have HE : Aside _ := hend
  clear hend
  refine region_ord (fun W => W.cell? ⟨b1, o1 + k * 2, none⟩ = some (.string (bs x.s)) ∧ Below wr.heap.size wr W) or20FT (by kernel_rfl) (by kernel_rfl) (by kernel_rfl) or20FT_ok (Stay.later HST (Below.drew (Below.refl _ _))) ?_
  have S0 : Hid (Stay wr b1 (o1 + k * 2) x.s w0.drew) := Stay.later HST (Below.drew (Below.refl _ _))
  clear HST
  unfold or20FT
  (refine ord_take (v := ?_) rfl (by rfl) ?_ ?_; rotate_left; (focus (intro w hSw; (try dsimp only at hSw); go_simp; (try with_reducible rfl); done)); (try simp (maxSteps := 10000000) only [Act.put, List.setIfInBounds_toArray, List.set_cons_zero, List.set_cons_succ]))
  (refine ord_take (v := ?_) rfl (by rfl) ?_ ?_; rotate_left; (focus (intro w hSw; (try dsimp only at hSw); go_simp; (try with_reducible rfl); done)); (try simp (maxSteps := 10000000) only [Act.put, List.setIfInBounds_toArray, List.set_cons_zero, List.set_cons_succ]))
  (refine ord_take (v := ?_) rfl (by rfl) ?_ ?_; rotate_left; (focus (intro w hSw; (try dsimp only at hSw); go_simp; (try with_reducible rfl); done)); (try simp (maxSteps := 10000000) only [Act.put, List.setIfInBounds_toArray, List.set_cons_zero, List.set_cons_succ]))
  (refine ord_take (v := ?_) rfl (by rfl) ?_ ?_; rotate_left; (focus (intro w hSw; (try dsimp only at hSw); go_simp; (try with_reducible rfl); done)); (try simp (maxSteps := 10000000) only [Act.put, List.setIfInBounds_toArray, List.set_cons_zero, List.set_cons_succ]))
  (refine ord_take (v := ?_) rfl (by rfl) ?_ ?_; rotate_left; (focus (intro w hSw; (try dsimp only at hSw); go_simp; (try with_reducible rfl); done)); (try simp (maxSteps := 10000000) only [Act.put, List.setIfInBounds_toArray, List.set_cons_zero, List.set_cons_succ]))
  (refine ord_take (v := ?_) rfl (by rfl) ?_ ?_; rotate_left; (focus (intro w hSw; (try dsimp only at hSw); go_simp; (try with_reducible rfl); done)); (try simp (maxSteps := 10000000) only [Act.put, List.setIfInBounds_toArray, List.set_cons_zero, List.set_cons_succ]))
  (refine ord_take (v := ?_) rfl (by rfl) ?_ ?_; rotate_left; (focus (intro w hSw; (try dsimp only at hSw); go_simp; (try with_reducible rfl); done)); (try simp (maxSteps := 10000000) only [Act.put, List.setIfInBounds_toArray, List.set_cons_zero, List.set_cons_succ]))
  (refine ord_take (v := ?_) rfl (by rfl) ?_ ?_; rotate_left; (focus (intro w hSw; (try dsimp only at hSw); go_simp; (try with_reducible rfl); done)); (try simp (maxSteps := 10000000) only [Act.put, List.setIfInBounds_toArray, List.set_cons_zero, List.set_cons_succ]))
  (refine ord_take (v := ?_) rfl (by rfl) ?_ ?_; rotate_left; (focus (intro w hSw; (try dsimp only at hSw); go_simp; (try with_reducible rfl); done)); (try simp (maxSteps := 10000000) only [Act.put, List.setIfInBounds_toArray, List.set_cons_zero, List.set_cons_succ]))
  refine ord_call rfl (by rfl) (fun K hK => ?_)
  go_simp
  refine (A5.out _ S0.out.2).mono ?_
  rintro e u1 ⟨hbu1, qu1, ku1, rfl, hrowu1, _⟩
  have Su1 : Hid (Stay wr b1 (o1 + k * 2) x.s u1) := S0.out.later hbu1
  have Ru1 := Lib.hid hrowu1
  clear hbu1 hrowu1
  go_wp2_with fail
  refine hK.out _ _ Su1.out (fun _ => ?_)
  clear hK S0
  (try simp (maxSteps := 10000000) only [Act.put, List.setIfInBounds_toArray, List.set_cons_zero, List.set_cons_succ])
  refine ord_call rfl (by rfl) (fun K hK => ?_)
  go_simp
  refine (E5.out _ _ _ Ru1.out).mono ?_
  rintro e w' ⟨rfl, rfl⟩
  go_wp2_with fail
  refine hK.out _ _ Su1.out (fun _ => ?_)
  clear hK Ru1
  (try simp (maxSteps := 10000000) only [Act.put, List.setIfInBounds_toArray, List.set_cons_zero, List.set_cons_succ])
  (refine ord_take (v := ?_) rfl (by rfl) ?_ ?_; rotate_left; (focus (intro w hSw; (try dsimp only at hSw); go_simp; (try with_reducible rfl); done)); (try simp (maxSteps := 10000000) only [Act.put, List.setIfInBounds_toArray, List.set_cons_zero, List.set_cons_succ]))
  (refine ord_skip rfl (by rfl) ?_; (try simp (maxSteps := 10000000) only [Act.put, List.setIfInBounds_toArray, List.set_cons_zero, List.set_cons_succ]))
  (refine ord_skip rfl (by rfl) ?_; (try simp (maxSteps := 10000000) only [Act.put, List.setIfInBounds_toArray, List.set_cons_zero, List.set_cons_succ]))
  (refine ord_skip rfl (by rfl) ?_; (try simp (maxSteps := 10000000) only [Act.put, List.setIfInBounds_toArray, List.set_cons_zero, List.set_cons_succ]))
  (refine ord_skip rfl (by rfl) ?_; (try simp (maxSteps := 10000000) only [Act.put, List.setIfInBounds_toArray, List.set_cons_zero, List.set_cons_succ]))
  (refine ord_skip rfl (by rfl) ?_; (try simp (maxSteps := 10000000) only [Act.put, List.setIfInBounds_toArray, List.set_cons_zero, List.set_cons_succ]))
  (refine ord_skip rfl (by rfl) ?_; (try simp (maxSteps := 10000000) only [Act.put, List.setIfInBounds_toArray, List.set_cons_zero, List.set_cons_succ]))
  (refine ord_skip rfl (by rfl) ?_; (try simp (maxSteps := 10000000) only [Act.put, List.setIfInBounds_toArray, List.set_cons_zero, List.set_cons_succ]))
  (refine ord_skip rfl (by rfl) ?_; (try simp (maxSteps := 10000000) only [Act.put, List.setIfInBounds_toArray, List.set_cons_zero, List.set_cons_succ]))
  (refine ord_skip rfl (by rfl) ?_; (try simp (maxSteps := 10000000) only [Act.put, List.setIfInBounds_toArray, List.set_cons_zero, List.set_cons_succ]))
  (refine ord_skip rfl (by rfl) ?_; (try simp (maxSteps := 10000000) only [Act.put, List.setIfInBounds_toArray, List.set_cons_zero, List.set_cons_succ]))
  (refine ord_take (v := ?_) rfl (by rfl) ?_ ?_; rotate_left; (focus (intro w hSw; (try dsimp only at hSw); go_simp; (try with_reducible rfl); done)); (try simp (maxSteps := 10000000) only [Act.put, List.setIfInBounds_toArray, List.set_cons_zero, List.set_cons_succ]))
  (refine ord_take (v := ?_) rfl (by rfl) ?_ ?_; rotate_left; (focus (intro w hSw; (try dsimp only at hSw); go_simp; (try with_reducible rfl); done)); (try simp (maxSteps := 10000000) only [Act.put, List.setIfInBounds_toArray, List.set_cons_zero, List.set_cons_succ]))
  (refine ord_take (v := ?_) rfl (by rfl) ?_ ?_; rotate_left; (focus (intro w hSw; (try dsimp only at hSw); go_simp; (try with_reducible rfl); done)); (try simp (maxSteps := 10000000) only [Act.put, List.setIfInBounds_toArray, List.set_cons_zero, List.set_cons_succ]))
  (refine ord_take (v := ?_) rfl (by rfl) ?_ ?_; rotate_left; (focus (intro w hSw; (try dsimp only at hSw); go_simp; (try with_reducible rfl); done)); (try simp (maxSteps := 10000000) only [Act.put, List.setIfInBounds_toArray, List.set_cons_zero, List.set_cons_succ]))
  (refine ord_take (v := ?_) rfl (by rfl) ?_ ?_; rotate_left; (focus (intro w hSw; (try dsimp only at hSw); go_simp; (try with_reducible rfl); done)); (try simp (maxSteps := 10000000) only [Act.put, List.setIfInBounds_toArray, List.set_cons_zero, List.set_cons_succ]))
  (refine ord_take (v := ?_) rfl (by rfl) ?_ ?_; rotate_left; (focus (intro w hSw; (try dsimp only at hSw); go_simp; (try with_reducible rfl); done)); (try simp (maxSteps := 10000000) only [Act.put, List.setIfInBounds_toArray, List.set_cons_zero, List.set_cons_succ]))
  (refine ord_take (v := ?_) rfl (by rfl) ?_ ?_; rotate_left; (focus (intro w hSw; (try dsimp only at hSw); go_simp; (try with_reducible rfl); done)); (try simp (maxSteps := 10000000) only [Act.put, List.setIfInBounds_toArray, List.set_cons_zero, List.set_cons_succ]))
  (refine ord_take (v := ?_) rfl (by rfl) ?_ ?_; rotate_left; (focus (intro w hSw; (try dsimp only at hSw); go_simp; (try with_reducible rfl); done)); (try simp (maxSteps := 10000000) only [Act.put, List.setIfInBounds_toArray, List.set_cons_zero, List.set_cons_succ]))
  (refine ord_take (v := ?_) rfl (by rfl) ?_ ?_; rotate_left; (focus (intro w hSw; (try dsimp only at hSw); go_simp; (try with_reducible rfl); done)); (try simp (maxSteps := 10000000) only [Act.put, List.setIfInBounds_toArray, List.set_cons_zero, List.set_cons_succ]))
  (refine ord_take (v := ?_) rfl (by rfl) ?_ ?_; rotate_left; (focus (intro w hSw; (try dsimp only at hSw); go_simp; (try with_reducible rfl); done)); (try simp (maxSteps := 10000000) only [Act.put, List.setIfInBounds_toArray, List.set_cons_zero, List.set_cons_succ]))
  (refine ord_take (v := ?_) rfl (by rfl) ?_ ?_; rotate_left; (focus (intro w hSw; (try dsimp only at hSw); go_simp; (try with_reducible rfl); done)); (try simp (maxSteps := 10000000) only [Act.put, List.setIfInBounds_toArray, List.set_cons_zero, List.set_cons_succ]))
  refine ord_call rfl (by rfl) (fun K hK => ?_)
  go_simp
  refine (A6.out _ Su1.out.2).mono ?_
  rintro e u2 ⟨hbu2, qu2, ku2, rfl, hrowu2, _⟩
  have Su2 : Hid (Stay wr b1 (o1 + k * 2) x.s u2) := Su1.out.later hbu2
  have Ru2 := Lib.hid hrowu2
  clear hbu2 hrowu2
  go_wp2_with fail
  refine hK.out _ _ Su2.out (fun _ => ?_)
  clear hK Su1
  (try simp (maxSteps := 10000000) only [Act.put, List.setIfInBounds_toArray, List.set_cons_zero, List.set_cons_succ])
  refine ord_call rfl (by rfl) (fun K hK => ?_)
  go_simp
  refine (E6.out _ _ _ Ru2.out).mono ?_
  rintro e w' ⟨rfl, rfl⟩
  go_wp2_with fail
  refine hK.out _ _ Su2.out (fun _ => ?_)
  clear hK Ru2
  (try simp (maxSteps := 10000000) only [Act.put, List.setIfInBounds_toArray, List.set_cons_zero, List.set_cons_succ])
  (refine ord_take (v := ?_) rfl (by rfl) ?_ ?_; rotate_left; (focus (intro w hSw; (try dsimp only at hSw); go_simp; (try with_reducible rfl); done)); (try simp (maxSteps := 10000000) only [Act.put, List.setIfInBounds_toArray, List.set_cons_zero, List.set_cons_succ]))
  (refine ord_take (v := ?_) rfl (by rfl) ?_ ?_; rotate_left; (focus (intro w hSw; (try dsimp only at hSw); go_simp; (try with_reducible rfl); done)); (try simp (maxSteps := 10000000) only [Act.put, List.setIfInBounds_toArray, List.set_cons_zero, List.set_cons_succ]))
  (refine ord_take (v := ?_) rfl (by rfl) ?_ ?_; rotate_left; (focus (intro w hSw; (try dsimp only at hSw); go_simp; (try with_reducible rfl); done)); (try simp (maxSteps := 10000000) only [Act.put, List.setIfInBounds_toArray, List.set_cons_zero, List.set_cons_succ]))
  (refine ord_take (v := ?_) rfl (by rfl) ?_ ?_; rotate_left; (focus (intro w hSw; (try dsimp only at hSw); go_simp; (try with_reducible rfl); done)); (try simp (maxSteps := 10000000) only [Act.put, List.setIfInBounds_toArray, List.set_cons_zero, List.set_cons_succ]))
  (refine ord_take (v := ?_) rfl (by rfl) ?_ ?_; rotate_left; (focus (intro w hSw; (try dsimp only at hSw); go_simp; (try with_reducible rfl); done)); (try simp (maxSteps := 10000000) only [Act.put, List.setIfInBounds_toArray, List.set_cons_zero, List.set_cons_succ]))
  (refine ord_take (v := ?_) rfl (by rfl) ?_ ?_; rotate_left; (focus (intro w hSw; (try dsimp only at hSw); go_simp; (try with_reducible rfl); done)); (try simp (maxSteps := 10000000) only [Act.put, List.setIfInBounds_toArray, List.set_cons_zero, List.set_cons_succ]))
  (refine ord_take (v := ?_) rfl (by rfl) ?_ ?_; rotate_left; (focus (intro w hSw; (try dsimp only at hSw); go_simp; (try with_reducible rfl); done)); (try simp (maxSteps := 10000000) only [Act.put, List.setIfInBounds_toArray, List.set_cons_zero, List.set_cons_succ]))
  (refine ord_take (v := ?_) rfl (by rfl) ?_ ?_; rotate_left; (focus (intro w hSw; (try dsimp only at hSw); go_simp; (try with_reducible rfl); done)); (try simp (maxSteps := 10000000) only [Act.put, List.setIfInBounds_toArray, List.set_cons_zero, List.set_cons_succ]))
  refine ord_call rfl (by rfl) (fun K hK => ?_)
  go_simp
  refine (A1.out _ Su2.out.2).mono ?_
  rintro e u3 ⟨hbu3, qu3, ku3, rfl, hrowu3, _⟩
  have Su3 : Hid (Stay wr b1 (o1 + k * 2) x.s u3) := Su2.out.later hbu3
  have Ru3 := Lib.hid hrowu3
  clear hbu3 hrowu3
  go_wp2_with fail
  refine hK.out _ _ Su3.out (fun _ => ?_)
  clear hK Su2
  (try simp (maxSteps := 10000000) only [Act.put, List.setIfInBounds_toArray, List.set_cons_zero, List.set_cons_succ])
  refine ord_call rfl (by rfl) (fun K hK => ?_)
  go_simp
  refine (E1.out _ _ _ Ru3.out).mono ?_
  rintro e w' ⟨rfl, rfl⟩
  go_wp2_with fail
  refine hK.out _ _ Su3.out (fun _ => ?_)
  clear hK Ru3
  (try simp (maxSteps := 10000000) only [Act.put, List.setIfInBounds_toArray, List.set_cons_zero, List.set_cons_succ])
  (refine ord_take (v := ?_) rfl (by rfl) ?_ ?_; rotate_left; (focus (intro w hSw; (try dsimp only at hSw); go_simp; (try with_reducible rfl); done)); (try simp (maxSteps := 10000000) only [Act.put, List.setIfInBounds_toArray, List.set_cons_zero, List.set_cons_succ]))
  (refine ord_take (v := ?_) rfl (by rfl) ?_ ?_; rotate_left; (focus (intro w hSw; (try dsimp only at hSw); go_simp; (try with_reducible rfl); done)); (try simp (maxSteps := 10000000) only [Act.put, List.setIfInBounds_toArray, List.set_cons_zero, List.set_cons_succ]))
  (refine ord_take (v := ?_) rfl (by rfl) ?_ ?_; rotate_left; (focus (intro w hSw; (try dsimp only at hSw); go_simp; (try with_reducible rfl); done)); (try simp (maxSteps := 10000000) only [Act.put, List.setIfInBounds_toArray, List.set_cons_zero, List.set_cons_succ]))
  refine ord_end ?_
  exact HE.out _ _ _ _ _ _ _ _ _ _ _ _ _ _ _ _ _ _ _ _ _ _ _ _ _ _ _ _ _ _ _ _ _ _ _ _ _ _ _ _ _ _ _ _ _ _ _ _ Su3.out
end Go.Proofs.YtenbbefahpkhpaaGreatDoor
/- A drawn region of PolicyErases, walked. -/
namespace Go.Proofs.YtenbbefahpkhpaaGreatDoor
open Go Go.RowKit

set_option maxRecDepth 100000 in
set_option maxHeartbeats 8000000 in
theorem reg20TF (s0 s3 s4 s5 s6 s9 s10 s11 s12 s14 s15 s16 s17 s18 s19 s20 s21 s22 s23 s24 s25 s26 s27 s28 s29 s30 s31 s32 s33 s34 s35 s36 s37 s38 s39 s40 s41 s42 s43 s44 s45 s46 s47 s48 s49 s50 s51 s52 s53 s54 s55 s56 s57 s58 s59 s60 s61 s62 s63 s64 s65 s66 s67 s68 s69 s70 s71 s72 s73 s74 s75 s76 s77 s78 s79 s80 s81 s82 s83 s84 s85 s86 s87 s88 s89 s90 s91 s92 s93 s94 s95 s96 s97 s98 s99 s100 s101 s102 s103 s104 s105 s106 s107 s108 s109 s110 s111 s112 s113 s114 s115 s116 s117 s118 s119 s120 s121 s122 s123 s124 s125 s126 s127 s128 s129 s130 s131 s132 s133 s134 s135 s136 s137 s138 s139 s140 s141 s142 s143 s144 s145 s146 s147 s148 s149 s150 s151 s152 s153 s154 s155 s156 s157 s158 s159 s160 s161 s162 s163 s164 s165 s166 s167 s168 s169 s170 s171 s172 s173 s174 s175 s176 s177 s178 s179 s180 s181 s182 s183 s184 s185 s186 s187 s188 s189 s190 s191 s192 s193 s194 s195 s196 s197 s198 s199 s200 s201 s202 s203 s204 s205 s206 s207 s208 s209 : Value) (wr : World) (b1 o1 k m c2 : Nat) (x : Vw) (aP : Addr) (c d eith both : Nat) (w0 : World) (hor : bits .or .u64 (c : Nat) (d : Nat) = (eith : Nat)) (hand : bits .and .u64 (c : Nat) (d : Nat) = (both : Nat)) (ns5 : List (List UInt8)) (a5 : ∀ W, Below wr.heap.size wr W → Calls Tryz.prog 13 #[.pointer (some aP), .int .u64 (eith : Nat)] W (GivesNm W ns5)) (e5 : ∀ W q k, NmRow W q ns5 → Calls Tryz.prog 25 #[.slice q ns5.length k, .string (bs x.s)] W fun e w' => e = .returned (.bool true) ∧ W = w') (ns6 : List (List UInt8)) (a6 : ∀ W, Below wr.heap.size wr W → Calls Tryz.prog 12 #[.pointer (some aP), .int .u64 (both : Nat)] W (GivesNm W ns6)) (e6 : ∀ W q k, NmRow W q ns6 → Calls Tryz.prog 25 #[.slice q ns6.length k, .string (bs x.s)] W fun e w' => e = .returned (.bool false) ∧ W = w') (ns2 : List (List UInt8)) (a2 : ∀ W, Below wr.heap.size wr W → Calls Tryz.prog 13 #[.pointer (some aP), .int .u64 (c : Nat)] W (GivesNm W ns2)) (e2 : ∀ W q k, NmRow W q ns2 → Calls Tryz.prog 25 #[.slice q ns2.length k, .string (bs x.s)] W fun e w' => e = .returned (.bool true) ∧ W = w')
    (hk0 : (0 : Int) ≤ (k : Int)) (hkI : (k : Int) < (m : Int)) (HST : Stay wr b1 (o1 + k * 2) x.s w0) (QQ : Exit → Act → World → Prop)
    (hend : ∀ (v162 v163 v164 v165 v166 v167 v168 v169 v170 v171 v172 v173 v174 v175 v176 v177 v178 v179 v180 v181 v182 v183 v184 v185 v186 v187 v188 v189 v190 v191 v192 v193 v194 v195 v196 v197 v198 v199 v200 v201 v202 v203 v204 v205 v206 v207 v208 : Value) (w' : World), Stay wr b1 (o1 + k * 2) x.s w' → QQ .normal ⟨List.toArray (s0 :: (.int .u64 (c : Nat)) :: (.int .u64 (d : Nat)) :: s3 :: s4 :: s5 :: s6 :: (.slice (some ⟨b1, o1, none⟩) m c2) :: (.pointer (some aP)) :: s9 :: s10 :: s11 :: s12 :: (.int .i64 (k : Nat)) :: s14 :: s15 :: s16 :: s17 :: s18 :: s19 :: s20 :: s21 :: s22 :: s23 :: s24 :: s25 :: s26 :: s27 :: s28 :: s29 :: s30 :: s31 :: s32 :: s33 :: s34 :: s35 :: s36 :: s37 :: s38 :: s39 :: s40 :: s41 :: s42 :: s43 :: s44 :: s45 :: s46 :: s47 :: s48 :: s49 :: s50 :: s51 :: s52 :: s53 :: s54 :: s55 :: s56 :: s57 :: s58 :: s59 :: s60 :: s61 :: s62 :: s63 :: s64 :: s65 :: s66 :: s67 :: s68 :: s69 :: s70 :: s71 :: s72 :: s73 :: s74 :: s75 :: s76 :: s77 :: s78 :: s79 :: s80 :: s81 :: s82 :: s83 :: s84 :: s85 :: s86 :: s87 :: s88 :: s89 :: s90 :: s91 :: s92 :: s93 :: s94 :: s95 :: s96 :: s97 :: s98 :: s99 :: s100 :: s101 :: s102 :: s103 :: s104 :: s105 :: s106 :: s107 :: s108 :: s109 :: s110 :: s111 :: s112 :: s113 :: s114 :: s115 :: s116 :: s117 :: s118 :: s119 :: s120 :: s121 :: s122 :: s123 :: s124 :: s125 :: s126 :: s127 :: s128 :: s129 :: s130 :: s131 :: s132 :: s133 :: s134 :: s135 :: s136 :: s137 :: s138 :: s139 :: s140 :: s141 :: s142 :: s143 :: s144 :: s145 :: s146 :: s147 :: s148 :: s149 :: s150 :: s151 :: s152 :: s153 :: s154 :: s155 :: s156 :: s157 :: s158 :: s159 :: s160 :: s161 :: v162 :: v163 :: v164 :: v165 :: v166 :: v167 :: v168 :: v169 :: v170 :: v171 :: v172 :: v173 :: v174 :: v175 :: v176 :: v177 :: v178 :: v179 :: v180 :: v181 :: v182 :: v183 :: v184 :: v185 :: v186 :: v187 :: v188 :: v189 :: v190 :: v191 :: v192 :: v193 :: v194 :: v195 :: v196 :: v197 :: v198 :: v199 :: v200 :: v201 :: v202 :: v203 :: v204 :: v205 :: v206 :: v207 :: v208 :: (.bool false) :: []), []⟩ w') :
    (Code.region 20 er20.toArray true).wp Tryz.prog QQ ⟨List.toArray (s0 :: (.int .u64 (c : Nat)) :: (.int .u64 (d : Nat)) :: s3 :: s4 :: s5 :: s6 :: (.slice (some ⟨b1, o1, none⟩) m c2) :: (.pointer (some aP)) :: s9 :: s10 :: s11 :: s12 :: (.int .i64 (k : Nat)) :: s14 :: s15 :: s16 :: s17 :: s18 :: s19 :: s20 :: s21 :: s22 :: s23 :: s24 :: s25 :: s26 :: s27 :: s28 :: s29 :: s30 :: s31 :: s32 :: s33 :: s34 :: s35 :: s36 :: s37 :: s38 :: s39 :: s40 :: s41 :: s42 :: s43 :: s44 :: s45 :: s46 :: s47 :: s48 :: s49 :: s50 :: s51 :: s52 :: s53 :: s54 :: s55 :: s56 :: s57 :: s58 :: s59 :: s60 :: s61 :: s62 :: s63 :: s64 :: s65 :: s66 :: s67 :: s68 :: s69 :: s70 :: s71 :: s72 :: s73 :: s74 :: s75 :: s76 :: s77 :: s78 :: s79 :: s80 :: s81 :: s82 :: s83 :: s84 :: s85 :: s86 :: s87 :: s88 :: s89 :: s90 :: s91 :: s92 :: s93 :: s94 :: s95 :: s96 :: s97 :: s98 :: s99 :: s100 :: s101 :: s102 :: s103 :: s104 :: s105 :: s106 :: s107 :: s108 :: s109 :: s110 :: s111 :: s112 :: s113 :: s114 :: s115 :: s116 :: s117 :: s118 :: s119 :: s120 :: s121 :: s122 :: s123 :: s124 :: s125 :: s126 :: s127 :: s128 :: s129 :: s130 :: s131 :: s132 :: s133 :: s134 :: s135 :: s136 :: s137 :: s138 :: s139 :: s140 :: s141 :: s142 :: s143 :: s144 :: s145 :: s146 :: s147 :: s148 :: s149 :: s150 :: s151 :: s152 :: s153 :: s154 :: s155 :: s156 :: s157 :: s158 :: s159 :: s160 :: s161 :: s162 :: s163 :: s164 :: s165 :: s166 :: s167 :: s168 :: s169 :: s170 :: s171 :: s172 :: s173 :: s174 :: s175 :: s176 :: s177 :: s178 :: s179 :: s180 :: s181 :: s182 :: s183 :: s184 :: s185 :: s186 :: s187 :: s188 :: s189 :: s190 :: s191 :: s192 :: s193 :: s194 :: s195 :: s196 :: s197 :: s198 :: s199 :: s200 :: s201 :: s202 :: s203 :: s204 :: s205 :: s206 :: s207 :: s208 :: s209 :: []), []⟩ w0 := by
  have A2 : Aside _ := a2
  have E2 : Aside _ := e2
  clear a2 e2
  have A5 : Aside _ := a5
  have E5 : Aside _ := e5
  clear a5 e5
  have A6 : Aside _ := a6
  have E6 : Aside _ := e6
  clear a6 e6
  have HE : Aside _ := hend
  clear hend
  refine region_ord (fun W => W.cell? ⟨b1, o1 + k * 2, none⟩ = some (.string (bs x.s)) ∧ Below wr.heap.size wr W) or20TF (by kernel_rfl) (by kernel_rfl) (by kernel_rfl) or20TF_ok (Stay.later HST (Below.drew (Below.refl _ _))) ?_
  have S0 : Hid (Stay wr b1 (o1 + k * 2) x.s w0.drew) := Stay.later HST (Below.drew (Below.refl _ _))
  clear HST
  unfold or20TF
  (refine ord_take (v := ?_) rfl (by rfl) ?_ ?_; rotate_left; (focus (intro w hSw; (try dsimp only at hSw); go_simp; (try with_reducible rfl); done)); (try simp (maxSteps := 10000000) only [Act.put, List.setIfInBounds_toArray, List.set_cons_zero, List.set_cons_succ]))
  (refine ord_take (v := ?_) rfl (by rfl) ?_ ?_; rotate_left; (focus (intro w hSw; (try dsimp only at hSw); go_simp; (try with_reducible rfl); done)); (try simp (maxSteps := 10000000) only [Act.put, List.setIfInBounds_toArray, List.set_cons_zero, List.set_cons_succ]))
  (refine ord_take (v := ?_) rfl (by rfl) ?_ ?_; rotate_left; (focus (intro w hSw; (try dsimp only at hSw); go_simp; (try with_reducible rfl); done)); (try simp (maxSteps := 10000000) only [Act.put, List.setIfInBounds_toArray, List.set_cons_zero, List.set_cons_succ]))
  (refine ord_take (v := ?_) rfl (by rfl) ?_ ?_; rotate_left; (focus (intro w hSw; (try dsimp only at hSw); go_simp; (try with_reducible rfl); done)); (try simp (maxSteps := 10000000) only [Act.put, List.setIfInBounds_toArray, List.set_cons_zero, List.set_cons_succ]))
  (refine ord_take (v := ?_) rfl (by rfl) ?_ ?_; rotate_left; (focus (intro w hSw; (try dsimp only at hSw); go_simp; (try with_reducible rfl); done)); (try simp (maxSteps := 10000000) only [Act.put, List.setIfInBounds_toArray, List.set_cons_zero, List.set_cons_succ]))
  (refine ord_take (v := ?_) rfl (by rfl) ?_ ?_; rotate_left; (focus (intro w hSw; (try dsimp only at hSw); go_simp; (try with_reducible rfl); done)); (try simp (maxSteps := 10000000) only [Act.put, List.setIfInBounds_toArray, List.set_cons_zero, List.set_cons_succ]))
  (refine ord_take (v := ?_) rfl (by rfl) ?_ ?_; rotate_left; (focus (intro w hSw; (try dsimp only at hSw); go_simp; (try with_reducible rfl); done)); (try simp (maxSteps := 10000000) only [Act.put, List.setIfInBounds_toArray, List.set_cons_zero, List.set_cons_succ]))
  (refine ord_take (v := ?_) rfl (by rfl) ?_ ?_; rotate_left; (focus (intro w hSw; (try dsimp only at hSw); go_simp; (try with_reducible rfl); done)); (try simp (maxSteps := 10000000) only [Act.put, List.setIfInBounds_toArray, List.set_cons_zero, List.set_cons_succ]))
  (refine ord_take (v := ?_) rfl (by rfl) ?_ ?_; rotate_left; (focus (intro w hSw; (try dsimp only at hSw); go_simp; (try with_reducible rfl); done)); (try simp (maxSteps := 10000000) only [Act.put, List.setIfInBounds_toArray, List.set_cons_zero, List.set_cons_succ]))
  refine ord_call rfl (by rfl) (fun K hK => ?_)
  go_simp
  refine (A5.out _ S0.out.2).mono ?_
  rintro e u1 ⟨hbu1, qu1, ku1, rfl, hrowu1, _⟩
  have Su1 : Hid (Stay wr b1 (o1 + k * 2) x.s u1) := S0.out.later hbu1
  have Ru1 := Lib.hid hrowu1
  clear hbu1 hrowu1
  go_wp2_with fail
  refine hK.out _ _ Su1.out (fun _ => ?_)
  clear hK S0
  (try simp (maxSteps := 10000000) only [Act.put, List.setIfInBounds_toArray, List.set_cons_zero, List.set_cons_succ])
  refine ord_call rfl (by rfl) (fun K hK => ?_)
  go_simp
  refine (E5.out _ _ _ Ru1.out).mono ?_
  rintro e w' ⟨rfl, rfl⟩
  go_wp2_with fail
  refine hK.out _ _ Su1.out (fun _ => ?_)
  clear hK Ru1
  (try simp (maxSteps := 10000000) only [Act.put, List.setIfInBounds_toArray, List.set_cons_zero, List.set_cons_succ])
  (refine ord_take (v := ?_) rfl (by rfl) ?_ ?_; rotate_left; (focus (intro w hSw; (try dsimp only at hSw); go_simp; (try with_reducible rfl); done)); (try simp (maxSteps := 10000000) only [Act.put, List.setIfInBounds_toArray, List.set_cons_zero, List.set_cons_succ]))
  (refine ord_take (v := ?_) rfl (by rfl) ?_ ?_; rotate_left; (focus (intro w hSw; (try dsimp only at hSw); go_simp; (try with_reducible rfl); done)); (try simp (maxSteps := 10000000) only [Act.put, List.setIfInBounds_toArray, List.set_cons_zero, List.set_cons_succ]))
  (refine ord_take (v := ?_) rfl (by rfl) ?_ ?_; rotate_left; (focus (intro w hSw; (try dsimp only at hSw); go_simp; (try with_reducible rfl); done)); (try simp (maxSteps := 10000000) only [Act.put, List.setIfInBounds_toArray, List.set_cons_zero, List.set_cons_succ]))
  (refine ord_take (v := ?_) rfl (by rfl) ?_ ?_; rotate_left; (focus (intro w hSw; (try dsimp only at hSw); go_simp; (try with_reducible rfl); done)); (try simp (maxSteps := 10000000) only [Act.put, List.setIfInBounds_toArray, List.set_cons_zero, List.set_cons_succ]))
  (refine ord_take (v := ?_) rfl (by rfl) ?_ ?_; rotate_left; (focus (intro w hSw; (try dsimp only at hSw); go_simp; (try with_reducible rfl); done)); (try simp (maxSteps := 10000000) only [Act.put, List.setIfInBounds_toArray, List.set_cons_zero, List.set_cons_succ]))
  (refine ord_take (v := ?_) rfl (by rfl) ?_ ?_; rotate_left; (focus (intro w hSw; (try dsimp only at hSw); go_simp; (try with_reducible rfl); done)); (try simp (maxSteps := 10000000) only [Act.put, List.setIfInBounds_toArray, List.set_cons_zero, List.set_cons_succ]))
  (refine ord_take (v := ?_) rfl (by rfl) ?_ ?_; rotate_left; (focus (intro w hSw; (try dsimp only at hSw); go_simp; (try with_reducible rfl); done)); (try simp (maxSteps := 10000000) only [Act.put, List.setIfInBounds_toArray, List.set_cons_zero, List.set_cons_succ]))
  (refine ord_take (v := ?_) rfl (by rfl) ?_ ?_; rotate_left; (focus (intro w hSw; (try dsimp only at hSw); go_simp; (try with_reducible rfl); done)); (try simp (maxSteps := 10000000) only [Act.put, List.setIfInBounds_toArray, List.set_cons_zero, List.set_cons_succ]))
  refine ord_call rfl (by rfl) (fun K hK => ?_)
  go_simp
  refine (A2.out _ Su1.out.2).mono ?_
  rintro e u2 ⟨hbu2, qu2, ku2, rfl, hrowu2, _⟩
  have Su2 : Hid (Stay wr b1 (o1 + k * 2) x.s u2) := Su1.out.later hbu2
  have Ru2 := Lib.hid hrowu2
  clear hbu2 hrowu2
  go_wp2_with fail
  refine hK.out _ _ Su2.out (fun _ => ?_)
  clear hK Su1
  (try simp (maxSteps := 10000000) only [Act.put, List.setIfInBounds_toArray, List.set_cons_zero, List.set_cons_succ])
  refine ord_call rfl (by rfl) (fun K hK => ?_)
  go_simp
  refine (E2.out _ _ _ Ru2.out).mono ?_
  rintro e w' ⟨rfl, rfl⟩
  go_wp2_with fail
  refine hK.out _ _ Su2.out (fun _ => ?_)
  clear hK Ru2
  (try simp (maxSteps := 10000000) only [Act.put, List.setIfInBounds_toArray, List.set_cons_zero, List.set_cons_succ])
  (refine ord_take (v := ?_) rfl (by rfl) ?_ ?_; rotate_left; (focus (intro w hSw; (try dsimp only at hSw); go_simp; (try with_reducible rfl); done)); (try simp (maxSteps := 10000000) only [Act.put, List.setIfInBounds_toArray, List.set_cons_zero, List.set_cons_succ]))
  (refine ord_take (v := ?_) rfl (by rfl) ?_ ?_; rotate_left; (focus (intro w hSw; (try dsimp only at hSw); go_simp; (try with_reducible rfl); done)); (try simp (maxSteps := 10000000) only [Act.put, List.setIfInBounds_toArray, List.set_cons_zero, List.set_cons_succ]))
  (refine ord_take (v := ?_) rfl (by rfl) ?_ ?_; rotate_left; (focus (intro w hSw; (try dsimp only at hSw); go_simp; (try with_reducible rfl); done)); (try simp (maxSteps := 10000000) only [Act.put, List.setIfInBounds_toArray, List.set_cons_zero, List.set_cons_succ]))
  (refine ord_take (v := ?_) rfl (by rfl) ?_ ?_; rotate_left; (focus (intro w hSw; (try dsimp only at hSw); go_simp; (try with_reducible rfl); done)); (try simp (maxSteps := 10000000) only [Act.put, List.setIfInBounds_toArray, List.set_cons_zero, List.set_cons_succ]))
  (refine ord_take (v := ?_) rfl (by rfl) ?_ ?_; rotate_left; (focus (intro w hSw; (try dsimp only at hSw); go_simp; (try with_reducible rfl); done)); (try simp (maxSteps := 10000000) only [Act.put, List.setIfInBounds_toArray, List.set_cons_zero, List.set_cons_succ]))
  (refine ord_take (v := ?_) rfl (by rfl) ?_ ?_; rotate_left; (focus (intro w hSw; (try dsimp only at hSw); go_simp; (try with_reducible rfl); done)); (try simp (maxSteps := 10000000) only [Act.put, List.setIfInBounds_toArray, List.set_cons_zero, List.set_cons_succ]))
  (refine ord_take (v := ?_) rfl (by rfl) ?_ ?_; rotate_left; (focus (intro w hSw; (try dsimp only at hSw); go_simp; (try with_reducible rfl); done)); (try simp (maxSteps := 10000000) only [Act.put, List.setIfInBounds_toArray, List.set_cons_zero, List.set_cons_succ]))
  (refine ord_take (v := ?_) rfl (by rfl) ?_ ?_; rotate_left; (focus (intro w hSw; (try dsimp only at hSw); go_simp; (try with_reducible rfl); done)); (try simp (maxSteps := 10000000) only [Act.put, List.setIfInBounds_toArray, List.set_cons_zero, List.set_cons_succ]))
  (refine ord_take (v := ?_) rfl (by rfl) ?_ ?_; rotate_left; (focus (intro w hSw; (try dsimp only at hSw); go_simp; (try with_reducible rfl); done)); (try simp (maxSteps := 10000000) only [Act.put, List.setIfInBounds_toArray, List.set_cons_zero, List.set_cons_succ]))
  (refine ord_take (v := ?_) rfl (by rfl) ?_ ?_; rotate_left; (focus (intro w hSw; (try dsimp only at hSw); go_simp; (try with_reducible rfl); done)); (try simp (maxSteps := 10000000) only [Act.put, List.setIfInBounds_toArray, List.set_cons_zero, List.set_cons_succ]))
  (refine ord_take (v := ?_) rfl (by rfl) ?_ ?_; rotate_left; (focus (intro w hSw; (try dsimp only at hSw); go_simp; (try with_reducible rfl); done)); (try simp (maxSteps := 10000000) only [Act.put, List.setIfInBounds_toArray, List.set_cons_zero, List.set_cons_succ]))
  (refine ord_take (v := ?_) rfl (by rfl) ?_ ?_; rotate_left; (focus (intro w hSw; (try dsimp only at hSw); go_simp; (try with_reducible rfl); done)); (try simp (maxSteps := 10000000) only [Act.put, List.setIfInBounds_toArray, List.set_cons_zero, List.set_cons_succ]))
  refine ord_call rfl (by rfl) (fun K hK => ?_)
  go_simp
  refine (A6.out _ Su2.out.2).mono ?_
  rintro e u3 ⟨hbu3, qu3, ku3, rfl, hrowu3, _⟩
  have Su3 : Hid (Stay wr b1 (o1 + k * 2) x.s u3) := Su2.out.later hbu3
  have Ru3 := Lib.hid hrowu3
  clear hbu3 hrowu3
  go_wp2_with fail
  refine hK.out _ _ Su3.out (fun _ => ?_)
  clear hK Su2
  (try simp (maxSteps := 10000000) only [Act.put, List.setIfInBounds_toArray, List.set_cons_zero, List.set_cons_succ])
  refine ord_call rfl (by rfl) (fun K hK => ?_)
  go_simp
  refine (E6.out _ _ _ Ru3.out).mono ?_
  rintro e w' ⟨rfl, rfl⟩
  go_wp2_with fail
  refine hK.out _ _ Su3.out (fun _ => ?_)
  clear hK Ru3
  (try simp (maxSteps := 10000000) only [Act.put, List.setIfInBounds_toArray, List.set_cons_zero, List.set_cons_succ])
  (refine ord_take (v := ?_) rfl (by rfl) ?_ ?_; rotate_left; (focus (intro w hSw; (try dsimp only at hSw); go_simp; (try with_reducible rfl); done)); (try simp (maxSteps := 10000000) only [Act.put, List.setIfInBounds_toArray, List.set_cons_zero, List.set_cons_succ]))
  (refine ord_skip rfl (by rfl) ?_; (try simp (maxSteps := 10000000) only [Act.put, List.setIfInBounds_toArray, List.set_cons_zero, List.set_cons_succ]))
  (refine ord_skip rfl (by rfl) ?_; (try simp (maxSteps := 10000000) only [Act.put, List.setIfInBounds_toArray, List.set_cons_zero, List.set_cons_succ]))
  (refine ord_skip rfl (by rfl) ?_; (try simp (maxSteps := 10000000) only [Act.put, List.setIfInBounds_toArray, List.set_cons_zero, List.set_cons_succ]))
  (refine ord_skip rfl (by rfl) ?_; (try simp (maxSteps := 10000000) only [Act.put, List.setIfInBounds_toArray, List.set_cons_zero, List.set_cons_succ]))
  (refine ord_skip rfl (by rfl) ?_; (try simp (maxSteps := 10000000) only [Act.put, List.setIfInBounds_toArray, List.set_cons_zero, List.set_cons_succ]))
  (refine ord_skip rfl (by rfl) ?_; (try simp (maxSteps := 10000000) only [Act.put, List.setIfInBounds_toArray, List.set_cons_zero, List.set_cons_succ]))
  (refine ord_skip rfl (by rfl) ?_; (try simp (maxSteps := 10000000) only [Act.put, List.setIfInBounds_toArray, List.set_cons_zero, List.set_cons_succ]))
  (refine ord_skip rfl (by rfl) ?_; (try simp (maxSteps := 10000000) only [Act.put, List.setIfInBounds_toArray, List.set_cons_zero, List.set_cons_succ]))
  (refine ord_skip rfl (by rfl) ?_; (try simp (maxSteps := 10000000) only [Act.put, List.setIfInBounds_toArray, List.set_cons_zero, List.set_cons_succ]))
  (refine ord_skip rfl (by rfl) ?_; (try simp (maxSteps := 10000000) only [Act.put, List.setIfInBounds_toArray, List.set_cons_zero, List.set_cons_succ]))
  (refine ord_take (v := ?_) rfl (by rfl) ?_ ?_; rotate_left; (focus (intro w hSw; (try dsimp only at hSw); go_simp; (try with_reducible rfl); done)); (try simp (maxSteps := 10000000) only [Act.put, List.setIfInBounds_toArray, List.set_cons_zero, List.set_cons_succ]))
  (refine ord_take (v := ?_) rfl (by rfl) ?_ ?_; rotate_left; (focus (intro w hSw; (try dsimp only at hSw); go_simp; (try with_reducible rfl); done)); (try simp (maxSteps := 10000000) only [Act.put, List.setIfInBounds_toArray, List.set_cons_zero, List.set_cons_succ]))
  refine ord_end ?_
  exact HE.out _ _ _ _ _ _ _ _ _ _ _ _ _ _ _ _ _ _ _ _ _ _ _ _ _ _ _ _ _ _ _ _ _ _ _ _ _ _ _ _ _ _ _ _ _ _ _ _ Su3.out
end Go.Proofs.YtenbbefahpkhpaaGreatDoor
/- A drawn region of PolicyErases, walked. -/
namespace Go.Proofs.YtenbbefahpkhpaaGreatDoor
open Go Go.RowKit

set_option maxRecDepth 100000 in
set_option maxHeartbeats 8000000 in
theorem reg20TT (s0 s3 s4 s5 s6 s9 s10 s11 s12 s14 s15 s16 s17 s18 s19 s20 s21 s22 s23 s24 s25 s26 s27 s28 s29 s30 s31 s32 s33 s34 s35 s36 s37 s38 s39 s40 s41 s42 s43 s44 s45 s46 s47 s48 s49 s50 s51 s52 s53 s54 s55 s56 s57 s58 s59 s60 s61 s62 s63 s64 s65 s66 s67 s68 s69 s70 s71 s72 s73 s74 s75 s76 s77 s78 s79 s80 s81 s82 s83 s84 s85 s86 s87 s88 s89 s90 s91 s92 s93 s94 s95 s96 s97 s98 s99 s100 s101 s102 s103 s104 s105 s106 s107 s108 s109 s110 s111 s112 s113 s114 s115 s116 s117 s118 s119 s120 s121 s122 s123 s124 s125 s126 s127 s128 s129 s130 s131 s132 s133 s134 s135 s136 s137 s138 s139 s140 s141 s142 s143 s144 s145 s146 s147 s148 s149 s150 s151 s152 s153 s154 s155 s156 s157 s158 s159 s160 s161 s162 s163 s164 s165 s166 s167 s168 s169 s170 s171 s172 s173 s174 s175 s176 s177 s178 s179 s180 s181 s182 s183 s184 s185 s186 s187 s188 s189 s190 s191 s192 s193 s194 s195 s196 s197 s198 s199 s200 s201 s202 s203 s204 s205 s206 s207 s208 s209 : Value) (wr : World) (b1 o1 k m c2 : Nat) (x : Vw) (aP : Addr) (c d eith both : Nat) (w0 : World) (hor : bits .or .u64 (c : Nat) (d : Nat) = (eith : Nat)) (hand : bits .and .u64 (c : Nat) (d : Nat) = (both : Nat)) (ns5 : List (List UInt8)) (a5 : ∀ W, Below wr.heap.size wr W → Calls Tryz.prog 13 #[.pointer (some aP), .int .u64 (eith : Nat)] W (GivesNm W ns5)) (e5 : ∀ W q k, NmRow W q ns5 → Calls Tryz.prog 25 #[.slice q ns5.length k, .string (bs x.s)] W fun e w' => e = .returned (.bool true) ∧ W = w') (ns6 : List (List UInt8)) (a6 : ∀ W, Below wr.heap.size wr W → Calls Tryz.prog 12 #[.pointer (some aP), .int .u64 (both : Nat)] W (GivesNm W ns6)) (e6 : ∀ W q k, NmRow W q ns6 → Calls Tryz.prog 25 #[.slice q ns6.length k, .string (bs x.s)] W fun e w' => e = .returned (.bool true) ∧ W = w') (ns2 : List (List UInt8)) (a2 : ∀ W, Below wr.heap.size wr W → Calls Tryz.prog 13 #[.pointer (some aP), .int .u64 (c : Nat)] W (GivesNm W ns2)) (e2 : ∀ W q k, NmRow W q ns2 → Calls Tryz.prog 25 #[.slice q ns2.length k, .string (bs x.s)] W fun e w' => e = .returned (.bool true) ∧ W = w') (ns1 : List (List UInt8)) (a1 : ∀ W, Below wr.heap.size wr W → Calls Tryz.prog 12 #[.pointer (some aP), .int .u64 (c : Nat)] W (GivesNm W ns1)) (e1 : ∀ W q k, NmRow W q ns1 → Calls Tryz.prog 25 #[.slice q ns1.length k, .string (bs x.s)] W fun e w' => e = .returned (.bool true) ∧ W = w')
    (hk0 : (0 : Int) ≤ (k : Int)) (hkI : (k : Int) < (m : Int)) (HST : Stay wr b1 (o1 + k * 2) x.s w0) (QQ : Exit → Act → World → Prop)
    (hend : ∀ (v162 v163 v164 v165 v166 v167 v168 v169 v170 v171 v172 v173 v174 v175 v176 v177 v178 v179 v180 v181 v182 v183 v184 v185 v186 v187 v188 v189 v190 v191 v192 v193 v194 v195 v196 v197 v198 v199 v200 v201 v202 v203 v204 v205 v206 v207 v208 : Value) (w' : World), Stay wr b1 (o1 + k * 2) x.s w' → QQ .normal ⟨List.toArray (s0 :: (.int .u64 (c : Nat)) :: (.int .u64 (d : Nat)) :: s3 :: s4 :: s5 :: s6 :: (.slice (some ⟨b1, o1, none⟩) m c2) :: (.pointer (some aP)) :: s9 :: s10 :: s11 :: s12 :: (.int .i64 (k : Nat)) :: s14 :: s15 :: s16 :: s17 :: s18 :: s19 :: s20 :: s21 :: s22 :: s23 :: s24 :: s25 :: s26 :: s27 :: s28 :: s29 :: s30 :: s31 :: s32 :: s33 :: s34 :: s35 :: s36 :: s37 :: s38 :: s39 :: s40 :: s41 :: s42 :: s43 :: s44 :: s45 :: s46 :: s47 :: s48 :: s49 :: s50 :: s51 :: s52 :: s53 :: s54 :: s55 :: s56 :: s57 :: s58 :: s59 :: s60 :: s61 :: s62 :: s63 :: s64 :: s65 :: s66 :: s67 :: s68 :: s69 :: s70 :: s71 :: s72 :: s73 :: s74 :: s75 :: s76 :: s77 :: s78 :: s79 :: s80 :: s81 :: s82 :: s83 :: s84 :: s85 :: s86 :: s87 :: s88 :: s89 :: s90 :: s91 :: s92 :: s93 :: s94 :: s95 :: s96 :: s97 :: s98 :: s99 :: s100 :: s101 :: s102 :: s103 :: s104 :: s105 :: s106 :: s107 :: s108 :: s109 :: s110 :: s111 :: s112 :: s113 :: s114 :: s115 :: s116 :: s117 :: s118 :: s119 :: s120 :: s121 :: s122 :: s123 :: s124 :: s125 :: s126 :: s127 :: s128 :: s129 :: s130 :: s131 :: s132 :: s133 :: s134 :: s135 :: s136 :: s137 :: s138 :: s139 :: s140 :: s141 :: s142 :: s143 :: s144 :: s145 :: s146 :: s147 :: s148 :: s149 :: s150 :: s151 :: s152 :: s153 :: s154 :: s155 :: s156 :: s157 :: s158 :: s159 :: s160 :: s161 :: v162 :: v163 :: v164 :: v165 :: v166 :: v167 :: v168 :: v169 :: v170 :: v171 :: v172 :: v173 :: v174 :: v175 :: v176 :: v177 :: v178 :: v179 :: v180 :: v181 :: v182 :: v183 :: v184 :: v185 :: v186 :: v187 :: v188 :: v189 :: v190 :: v191 :: v192 :: v193 :: v194 :: v195 :: v196 :: v197 :: v198 :: v199 :: v200 :: v201 :: v202 :: v203 :: v204 :: v205 :: v206 :: v207 :: v208 :: (.bool false) :: []), []⟩ w') :
    (Code.region 20 er20.toArray true).wp Tryz.prog QQ ⟨List.toArray (s0 :: (.int .u64 (c : Nat)) :: (.int .u64 (d : Nat)) :: s3 :: s4 :: s5 :: s6 :: (.slice (some ⟨b1, o1, none⟩) m c2) :: (.pointer (some aP)) :: s9 :: s10 :: s11 :: s12 :: (.int .i64 (k : Nat)) :: s14 :: s15 :: s16 :: s17 :: s18 :: s19 :: s20 :: s21 :: s22 :: s23 :: s24 :: s25 :: s26 :: s27 :: s28 :: s29 :: s30 :: s31 :: s32 :: s33 :: s34 :: s35 :: s36 :: s37 :: s38 :: s39 :: s40 :: s41 :: s42 :: s43 :: s44 :: s45 :: s46 :: s47 :: s48 :: s49 :: s50 :: s51 :: s52 :: s53 :: s54 :: s55 :: s56 :: s57 :: s58 :: s59 :: s60 :: s61 :: s62 :: s63 :: s64 :: s65 :: s66 :: s67 :: s68 :: s69 :: s70 :: s71 :: s72 :: s73 :: s74 :: s75 :: s76 :: s77 :: s78 :: s79 :: s80 :: s81 :: s82 :: s83 :: s84 :: s85 :: s86 :: s87 :: s88 :: s89 :: s90 :: s91 :: s92 :: s93 :: s94 :: s95 :: s96 :: s97 :: s98 :: s99 :: s100 :: s101 :: s102 :: s103 :: s104 :: s105 :: s106 :: s107 :: s108 :: s109 :: s110 :: s111 :: s112 :: s113 :: s114 :: s115 :: s116 :: s117 :: s118 :: s119 :: s120 :: s121 :: s122 :: s123 :: s124 :: s125 :: s126 :: s127 :: s128 :: s129 :: s130 :: s131 :: s132 :: s133 :: s134 :: s135 :: s136 :: s137 :: s138 :: s139 :: s140 :: s141 :: s142 :: s143 :: s144 :: s145 :: s146 :: s147 :: s148 :: s149 :: s150 :: s151 :: s152 :: s153 :: s154 :: s155 :: s156 :: s157 :: s158 :: s159 :: s160 :: s161 :: s162 :: s163 :: s164 :: s165 :: s166 :: s167 :: s168 :: s169 :: s170 :: s171 :: s172 :: s173 :: s174 :: s175 :: s176 :: s177 :: s178 :: s179 :: s180 :: s181 :: s182 :: s183 :: s184 :: s185 :: s186 :: s187 :: s188 :: s189 :: s190 :: s191 :: s192 :: s193 :: s194 :: s195 :: s196 :: s197 :: s198 :: s199 :: s200 :: s201 :: s202 :: s203 :: s204 :: s205 :: s206 :: s207 :: s208 :: s209 :: []), []⟩ w0 := by
  have A1 : Aside _ := a1
  have E1 : Aside _ := e1
  clear a1 e1
  have A2 : Aside _ := a2
  have E2 : Aside _ := e2
  clear a2 e2
  have A5 : Aside _ := a5
  have E5 : Aside _ := e5
  clear a5 e5
  have A6 : Aside _ := a6
  have E6 : Aside _ := e6
  clear a6 e6
  have HE : Aside _ := hend
  clear hend
  refine region_ord (fun W => W.cell? ⟨b1, o1 + k * 2, none⟩ = some (.string (bs x.s)) ∧ Below wr.heap.size wr W) or20TT (by kernel_rfl) (by kernel_rfl) (by kernel_rfl) or20TT_ok (Stay.later HST (Below.drew (Below.refl _ _))) ?_
  have S0 : Hid (Stay wr b1 (o1 + k * 2) x.s w0.drew) := Stay.later HST (Below.drew (Below.refl _ _))
  clear HST
  unfold or20TT
  (refine ord_take (v := ?_) rfl (by rfl) ?_ ?_; rotate_left; (focus (intro w hSw; (try dsimp only at hSw); go_simp; (try with_reducible rfl); done)); (try simp (maxSteps := 10000000) only [Act.put, List.setIfInBounds_toArray, List.set_cons_zero, List.set_cons_succ]))
  (refine ord_take (v := ?_) rfl (by rfl) ?_ ?_; rotate_left; (focus (intro w hSw; (try dsimp only at hSw); go_simp; (try with_reducible rfl); done)); (try simp (maxSteps := 10000000) only [Act.put, List.setIfInBounds_toArray, List.set_cons_zero, List.set_cons_succ]))
  (refine ord_take (v := ?_) rfl (by rfl) ?_ ?_; rotate_left; (focus (intro w hSw; (try dsimp only at hSw); go_simp; (try with_reducible rfl); done)); (try simp (maxSteps := 10000000) only [Act.put, List.setIfInBounds_toArray, List.set_cons_zero, List.set_cons_succ]))
  (refine ord_take (v := ?_) rfl (by rfl) ?_ ?_; rotate_left; (focus (intro w hSw; (try dsimp only at hSw); go_simp; (try with_reducible rfl); done)); (try simp (maxSteps := 10000000) only [Act.put, List.setIfInBounds_toArray, List.set_cons_zero, List.set_cons_succ]))
  (refine ord_take (v := ?_) rfl (by rfl) ?_ ?_; rotate_left; (focus (intro w hSw; (try dsimp only at hSw); go_simp; (try with_reducible rfl); done)); (try simp (maxSteps := 10000000) only [Act.put, List.setIfInBounds_toArray, List.set_cons_zero, List.set_cons_succ]))
  (refine ord_take (v := ?_) rfl (by rfl) ?_ ?_; rotate_left; (focus (intro w hSw; (try dsimp only at hSw); go_simp; (try with_reducible rfl); done)); (try simp (maxSteps := 10000000) only [Act.put, List.setIfInBounds_toArray, List.set_cons_zero, List.set_cons_succ]))
  (refine ord_take (v := ?_) rfl (by rfl) ?_ ?_; rotate_left; (focus (intro w hSw; (try dsimp only at hSw); go_simp; (try with_reducible rfl); done)); (try simp (maxSteps := 10000000) only [Act.put, List.setIfInBounds_toArray, List.set_cons_zero, List.set_cons_succ]))
  (refine ord_take (v := ?_) rfl (by rfl) ?_ ?_; rotate_left; (focus (intro w hSw; (try dsimp only at hSw); go_simp; (try with_reducible rfl); done)); (try simp (maxSteps := 10000000) only [Act.put, List.setIfInBounds_toArray, List.set_cons_zero, List.set_cons_succ]))
  (refine ord_take (v := ?_) rfl (by rfl) ?_ ?_; rotate_left; (focus (intro w hSw; (try dsimp only at hSw); go_simp; (try with_reducible rfl); done)); (try simp (maxSteps := 10000000) only [Act.put, List.setIfInBounds_toArray, List.set_cons_zero, List.set_cons_succ]))
  refine ord_call rfl (by rfl) (fun K hK => ?_)
  go_simp
  refine (A5.out _ S0.out.2).mono ?_
  rintro e u1 ⟨hbu1, qu1, ku1, rfl, hrowu1, _⟩
  have Su1 : Hid (Stay wr b1 (o1 + k * 2) x.s u1) := S0.out.later hbu1
  have Ru1 := Lib.hid hrowu1
  clear hbu1 hrowu1
  go_wp2_with fail
  refine hK.out _ _ Su1.out (fun _ => ?_)
  clear hK S0
  (try simp (maxSteps := 10000000) only [Act.put, List.setIfInBounds_toArray, List.set_cons_zero, List.set_cons_succ])
  refine ord_call rfl (by rfl) (fun K hK => ?_)
  go_simp
  refine (E5.out _ _ _ Ru1.out).mono ?_
  rintro e w' ⟨rfl, rfl⟩
  go_wp2_with fail
  refine hK.out _ _ Su1.out (fun _ => ?_)
  clear hK Ru1
  (try simp (maxSteps := 10000000) only [Act.put, List.setIfInBounds_toArray, List.set_cons_zero, List.set_cons_succ])
  (refine ord_take (v := ?_) rfl (by rfl) ?_ ?_; rotate_left; (focus (intro w hSw; (try dsimp only at hSw); go_simp; (try with_reducible rfl); done)); (try simp (maxSteps := 10000000) only [Act.put, List.setIfInBounds_toArray, List.set_cons_zero, List.set_cons_succ]))
  (refine ord_take (v := ?_) rfl (by rfl) ?_ ?_; rotate_left; (focus (intro w hSw; (try dsimp only at hSw); go_simp; (try with_reducible rfl); done)); (try simp (maxSteps := 10000000) only [Act.put, List.setIfInBounds_toArray, List.set_cons_zero, List.set_cons_succ]))
  (refine ord_take (v := ?_) rfl (by rfl) ?_ ?_; rotate_left; (focus (intro w hSw; (try dsimp only at hSw); go_simp; (try with_reducible rfl); done)); (try simp (maxSteps := 10000000) only [Act.put, List.setIfInBounds_toArray, List.set_cons_zero, List.set_cons_succ]))
  (refine ord_take (v := ?_) rfl (by rfl) ?_ ?_; rotate_left; (focus (intro w hSw; (try dsimp only at hSw); go_simp; (try with_reducible rfl); done)); (try simp (maxSteps := 10000000) only [Act.put, List.setIfInBounds_toArray, List.set_cons_zero, List.set_cons_succ]))
  (refine ord_take (v := ?_) rfl (by rfl) ?_ ?_; rotate_left; (focus (intro w hSw; (try dsimp only at hSw); go_simp; (try with_reducible rfl); done)); (try simp (maxSteps := 10000000) only [Act.put, List.setIfInBounds_toArray, List.set_cons_zero, List.set_cons_succ]))
  (refine ord_take (v := ?_) rfl (by rfl) ?_ ?_; rotate_left; (focus (intro w hSw; (try dsimp only at hSw); go_simp; (try with_reducible rfl); done)); (try simp (maxSteps := 10000000) only [Act.put, List.setIfInBounds_toArray, List.set_cons_zero, List.set_cons_succ]))
  (refine ord_take (v := ?_) rfl (by rfl) ?_ ?_; rotate_left; (focus (intro w hSw; (try dsimp only at hSw); go_simp; (try with_reducible rfl); done)); (try simp (maxSteps := 10000000) only [Act.put, List.setIfInBounds_toArray, List.set_cons_zero, List.set_cons_succ]))
  (refine ord_take (v := ?_) rfl (by rfl) ?_ ?_; rotate_left; (focus (intro w hSw; (try dsimp only at hSw); go_simp; (try with_reducible rfl); done)); (try simp (maxSteps := 10000000) only [Act.put, List.setIfInBounds_toArray, List.set_cons_zero, List.set_cons_succ]))
  refine ord_call rfl (by rfl) (fun K hK => ?_)
  go_simp
  refine (A2.out _ Su1.out.2).mono ?_
  rintro e u2 ⟨hbu2, qu2, ku2, rfl, hrowu2, _⟩
  have Su2 : Hid (Stay wr b1 (o1 + k * 2) x.s u2) := Su1.out.later hbu2
  have Ru2 := Lib.hid hrowu2
  clear hbu2 hrowu2
  go_wp2_with fail
  refine hK.out _ _ Su2.out (fun _ => ?_)
  clear hK Su1
  (try simp (maxSteps := 10000000) only [Act.put, List.setIfInBounds_toArray, List.set_cons_zero, List.set_cons_succ])
  refine ord_call rfl (by rfl) (fun K hK => ?_)
  go_simp
  refine (E2.out _ _ _ Ru2.out).mono ?_
  rintro e w' ⟨rfl, rfl⟩
  go_wp2_with fail
  refine hK.out _ _ Su2.out (fun _ => ?_)
  clear hK Ru2
  (try simp (maxSteps := 10000000) only [Act.put, List.setIfInBounds_toArray, List.set_cons_zero, List.set_cons_succ])
  (refine ord_take (v := ?_) rfl (by rfl) ?_ ?_; rotate_left; (focus (intro w hSw; (try dsimp only at hSw); go_simp; (try with_reducible rfl); done)); (try simp (maxSteps := 10000000) only [Act.put, List.setIfInBounds_toArray, List.set_cons_zero, List.set_cons_succ]))
  (refine ord_take (v := ?_) rfl (by rfl) ?_ ?_; rotate_left; (focus (intro w hSw; (try dsimp only at hSw); go_simp; (try with_reducible rfl); done)); (try simp (maxSteps := 10000000) only [Act.put, List.setIfInBounds_toArray, List.set_cons_zero, List.set_cons_succ]))
  (refine ord_take (v := ?_) rfl (by rfl) ?_ ?_; rotate_left; (focus (intro w hSw; (try dsimp only at hSw); go_simp; (try with_reducible rfl); done)); (try simp (maxSteps := 10000000) only [Act.put, List.setIfInBounds_toArray, List.set_cons_zero, List.set_cons_succ]))
  (refine ord_take (v := ?_) rfl (by rfl) ?_ ?_; rotate_left; (focus (intro w hSw; (try dsimp only at hSw); go_simp; (try with_reducible rfl); done)); (try simp (maxSteps := 10000000) only [Act.put, List.setIfInBounds_toArray, List.set_cons_zero, List.set_cons_succ]))
  (refine ord_take (v := ?_) rfl (by rfl) ?_ ?_; rotate_left; (focus (intro w hSw; (try dsimp only at hSw); go_simp; (try with_reducible rfl); done)); (try simp (maxSteps := 10000000) only [Act.put, List.setIfInBounds_toArray, List.set_cons_zero, List.set_cons_succ]))
  (refine ord_take (v := ?_) rfl (by rfl) ?_ ?_; rotate_left; (focus (intro w hSw; (try dsimp only at hSw); go_simp; (try with_reducible rfl); done)); (try simp (maxSteps := 10000000) only [Act.put, List.setIfInBounds_toArray, List.set_cons_zero, List.set_cons_succ]))
  (refine ord_take (v := ?_) rfl (by rfl) ?_ ?_; rotate_left; (focus (intro w hSw; (try dsimp only at hSw); go_simp; (try with_reducible rfl); done)); (try simp (maxSteps := 10000000) only [Act.put, List.setIfInBounds_toArray, List.set_cons_zero, List.set_cons_succ]))
  (refine ord_take (v := ?_) rfl (by rfl) ?_ ?_; rotate_left; (focus (intro w hSw; (try dsimp only at hSw); go_simp; (try with_reducible rfl); done)); (try simp (maxSteps := 10000000) only [Act.put, List.setIfInBounds_toArray, List.set_cons_zero, List.set_cons_succ]))
  (refine ord_take (v := ?_) rfl (by rfl) ?_ ?_; rotate_left; (focus (intro w hSw; (try dsimp only at hSw); go_simp; (try with_reducible rfl); done)); (try simp (maxSteps := 10000000) only [Act.put, List.setIfInBounds_toArray, List.set_cons_zero, List.set_cons_succ]))
  (refine ord_take (v := ?_) rfl (by rfl) ?_ ?_; rotate_left; (focus (intro w hSw; (try dsimp only at hSw); go_simp; (try with_reducible rfl); done)); (try simp (maxSteps := 10000000) only [Act.put, List.setIfInBounds_toArray, List.set_cons_zero, List.set_cons_succ]))
  (refine ord_take (v := ?_) rfl (by rfl) ?_ ?_; rotate_left; (focus (intro w hSw; (try dsimp only at hSw); go_simp; (try with_reducible rfl); done)); (try simp (maxSteps := 10000000) only [Act.put, List.setIfInBounds_toArray, List.set_cons_zero, List.set_cons_succ]))
  (refine ord_take (v := ?_) rfl (by rfl) ?_ ?_; rotate_left; (focus (intro w hSw; (try dsimp only at hSw); go_simp; (try with_reducible rfl); done)); (try simp (maxSteps := 10000000) only [Act.put, List.setIfInBounds_toArray, List.set_cons_zero, List.set_cons_succ]))
  refine ord_call rfl (by rfl) (fun K hK => ?_)
  go_simp
  refine (A6.out _ Su2.out.2).mono ?_
  rintro e u3 ⟨hbu3, qu3, ku3, rfl, hrowu3, _⟩
  have Su3 : Hid (Stay wr b1 (o1 + k * 2) x.s u3) := Su2.out.later hbu3
  have Ru3 := Lib.hid hrowu3
  clear hbu3 hrowu3
  go_wp2_with fail
  refine hK.out _ _ Su3.out (fun _ => ?_)
  clear hK Su2
  (try simp (maxSteps := 10000000) only [Act.put, List.setIfInBounds_toArray, List.set_cons_zero, List.set_cons_succ])
  refine ord_call rfl (by rfl) (fun K hK => ?_)
  go_simp
  refine (E6.out _ _ _ Ru3.out).mono ?_
  rintro e w' ⟨rfl, rfl⟩
  go_wp2_with fail
  refine hK.out _ _ Su3.out (fun _ => ?_)
  clear hK Ru3
  (try simp (maxSteps := 10000000) only [Act.put, List.setIfInBounds_toArray, List.set_cons_zero, List.set_cons_succ])
  (refine ord_take (v := ?_) rfl (by rfl) ?_ ?_; rotate_left; (focus (intro w hSw; (try dsimp only at hSw); go_simp; (try with_reducible rfl); done)); (try simp (maxSteps := 10000000) only [Act.put, List.setIfInBounds_toArray, List.set_cons_zero, List.set_cons_succ]))
  (refine ord_take (v := ?_) rfl (by rfl) ?_ ?_; rotate_left; (focus (intro w hSw; (try dsimp only at hSw); go_simp; (try with_reducible rfl); done)); (try simp (maxSteps := 10000000) only [Act.put, List.setIfInBounds_toArray, List.set_cons_zero, List.set_cons_succ]))
  (refine ord_take (v := ?_) rfl (by rfl) ?_ ?_; rotate_left; (focus (intro w hSw; (try dsimp only at hSw); go_simp; (try with_reducible rfl); done)); (try simp (maxSteps := 10000000) only [Act.put, List.setIfInBounds_toArray, List.set_cons_zero, List.set_cons_succ]))
  (refine ord_take (v := ?_) rfl (by rfl) ?_ ?_; rotate_left; (focus (intro w hSw; (try dsimp only at hSw); go_simp; (try with_reducible rfl); done)); (try simp (maxSteps := 10000000) only [Act.put, List.setIfInBounds_toArray, List.set_cons_zero, List.set_cons_succ]))
  (refine ord_take (v := ?_) rfl (by rfl) ?_ ?_; rotate_left; (focus (intro w hSw; (try dsimp only at hSw); go_simp; (try with_reducible rfl); done)); (try simp (maxSteps := 10000000) only [Act.put, List.setIfInBounds_toArray, List.set_cons_zero, List.set_cons_succ]))
  (refine ord_take (v := ?_) rfl (by rfl) ?_ ?_; rotate_left; (focus (intro w hSw; (try dsimp only at hSw); go_simp; (try with_reducible rfl); done)); (try simp (maxSteps := 10000000) only [Act.put, List.setIfInBounds_toArray, List.set_cons_zero, List.set_cons_succ]))
  (refine ord_take (v := ?_) rfl (by rfl) ?_ ?_; rotate_left; (focus (intro w hSw; (try dsimp only at hSw); go_simp; (try with_reducible rfl); done)); (try simp (maxSteps := 10000000) only [Act.put, List.setIfInBounds_toArray, List.set_cons_zero, List.set_cons_succ]))
  (refine ord_take (v := ?_) rfl (by rfl) ?_ ?_; rotate_left; (focus (intro w hSw; (try dsimp only at hSw); go_simp; (try with_reducible rfl); done)); (try simp (maxSteps := 10000000) only [Act.put, List.setIfInBounds_toArray, List.set_cons_zero, List.set_cons_succ]))
  refine ord_call rfl (by rfl) (fun K hK => ?_)
  go_simp
  refine (A1.out _ Su3.out.2).mono ?_
  rintro e u4 ⟨hbu4, qu4, ku4, rfl, hrowu4, _⟩
  have Su4 : Hid (Stay wr b1 (o1 + k * 2) x.s u4) := Su3.out.later hbu4
  have Ru4 := Lib.hid hrowu4
  clear hbu4 hrowu4
  go_wp2_with fail
  refine hK.out _ _ Su4.out (fun _ => ?_)
  clear hK Su3
  (try simp (maxSteps := 10000000) only [Act.put, List.setIfInBounds_toArray, List.set_cons_zero, List.set_cons_succ])
  refine ord_call rfl (by rfl) (fun K hK => ?_)
  go_simp
  refine (E1.out _ _ _ Ru4.out).mono ?_
  rintro e w' ⟨rfl, rfl⟩
  go_wp2_with fail
  refine hK.out _ _ Su4.out (fun _ => ?_)
  clear hK Ru4
  (try simp (maxSteps := 10000000) only [Act.put, List.setIfInBounds_toArray, List.set_cons_zero, List.set_cons_succ])
  (refine ord_take (v := ?_) rfl (by rfl) ?_ ?_; rotate_left; (focus (intro w hSw; (try dsimp only at hSw); go_simp; (try with_reducible rfl); done)); (try simp (maxSteps := 10000000) only [Act.put, List.setIfInBounds_toArray, List.set_cons_zero, List.set_cons_succ]))
  (refine ord_take (v := ?_) rfl (by rfl) ?_ ?_; rotate_left; (focus (intro w hSw; (try dsimp only at hSw); go_simp; (try with_reducible rfl); done)); (try simp (maxSteps := 10000000) only [Act.put, List.setIfInBounds_toArray, List.set_cons_zero, List.set_cons_succ]))
  (refine ord_take (v := ?_) rfl (by rfl) ?_ ?_; rotate_left; (focus (intro w hSw; (try dsimp only at hSw); go_simp; (try with_reducible rfl); done)); (try simp (maxSteps := 10000000) only [Act.put, List.setIfInBounds_toArray, List.set_cons_zero, List.set_cons_succ]))
  refine ord_end ?_
  exact HE.out _ _ _ _ _ _ _ _ _ _ _ _ _ _ _ _ _ _ _ _ _ _ _ _ _ _ _ _ _ _ _ _ _ _ _ _ _ _ _ _ _ _ _ _ _ _ _ _ Su4.out
end Go.Proofs.YtenbbefahpkhpaaGreatDoor
/- scrimlaw03.PolicyErases, walked: it returns true. -/
namespace Go.Proofs.YtenbbefahpkhpaaGreatDoor
open Go Go.RowKit Go.Maps

/-- Two policies, and the library's table. -/
structure Two (W : World) (p o : Value) (L O : List Vw) : Prop where
  p : PolAt W p L
  o : PolAt W o O
theorem Two.later {W W' : World} {p o : Value} {L O : List Vw} (h : Two W p o L O) (hb : Below W.heap.size W W') : Two W' p o L O := ⟨h.p.later hb, h.o.later hb⟩
set_option maxRecDepth 100000 in
set_option maxHeartbeats 8000000 in
theorem policyErases_any (W0 : World) (p : Option Addr) (n k0 : Nat) (cs : List Nat) (c d : Nat) (hc : c < 18446744073709551616) (hd : d < 18446744073709551616) (hn : cs.length = n) (hr : LabRow W0 p cs) (hcs : ∀ x ∈ cs, x < 18446744073709551616) (hM : MaxS W0) (hT : BTab W0) (hE : EvW W0) :
    Calls Tryz.prog 7 #[.slice p n k0, .int .u64 c, .int .u64 d] W0 fun e w' => e = .returned (.bool true) ∧ Below W0.heap.size W0 w' := by
  have cW := works_pol W0 hM hT hE
  have HR : Aside _ := hr
  have hok : okL (fitL cs) := fit_ok cs _ (Nat.min_le_right _ _)
  have hlo : Lo64 (fitL cs) := fit_lo cs _ hcs
  generalize hl : fitL cs = l at *
  have HL := Lib.hid hl
  have HOK : Hid (okL l) := hok
  have HLO : Hid (Lo64 l) := hlo
  obtain ⟨m, hm⟩ : ∃ m, l.length = m := ⟨_, rfl⟩
  have HMM := Lib.hid hm
  have hm64 : m ≤ 64 := by have := hok.1; omega
  have hand : bits .and .u64 (c : Int) (d : Int) = ((c &&& d : Nat) : Int) := u64_and_nat c d hc hd
  have hor : bits .or .u64 (c : Int) (d : Int) = ((c ||| d : Nat) : Int) := u64_or_nat c d hc hd
  have hcd : c &&& d < 18446744073709551616 := and_lt c d hc
  have hcd2 : c ||| d < 18446744073709551616 := or_lt c d hc hd
  have htw := Lib.hid (fun L => erase_twice L c d)
  have hand4 := Lib.hid (fun a => below_and a c d)
  have hor3 := Lib.hid (fun a => below_or c d a)
  have HAND := Lib.hid hand
  have HOR := Lib.hid hor
  obtain ⟨both, hboth⟩ : ∃ x, c &&& d = x := ⟨_, rfl⟩
  obtain ⟨eith, heith⟩ : ∃ x, c ||| d = x := ⟨_, rfl⟩
  rw [hboth] at hand hcd htw hand4
  rw [heith] at hor hcd2 hor3
  clear hr hM hT hE hok hlo hl hcs hboth heith HAND HOR
  go_enter Tryz.func7, Tryz.ntmps7
  go_wp2_with fail
  refine cW.mono ?_
  rintro e w1 ⟨rfl, hb1⟩
  have cF := fit_any w1 p n k0 cs hn (LabRow.later HR.out hb1)
  unfold GivesVw at cF
  rw [HL.out, hm] at cF
  clear cW
  go_wp2_with fail
  refine cF.mono ?_
  rintro e w2 ⟨hb2, p2, c2, rfl, hr2, _⟩
  have HB2 := Lib.hid (hb1.trans (hb2.mono hb1.size))
  have cN := new_any w2 p2 m c2 l hm (by unfold maxLen; omega) hr2 (fit_of HOK.out HLO.out)
  have HR2 : Hid (VwRow w2 p2 l) := hr2
  clear cF hb1 hb2 hn hm hr2
  go_wp2_with fail
  refine cN.mono ?_
  rintro e w3 ⟨hb3, ⟨_, v3, rfl, hp3, a3, rfl⟩ | ⟨hno, _⟩⟩
  rotate_left
  · exact absurd HOK.out hno
  have HB3 := Lib.hid (HB2.out.trans (hb3.mono HB2.out.size))
  have HR3 := Lib.hid (HR2.out.later hb3)
  have HMEM : Hid (∀ x ∈ l, x ∈ sortV l) := fun x hx => (sortV_perm l).mem_iff.2 hx
  generalize sortV l = L at *
  have HP3 : Hid (PolAt w3 (.pointer (some a3)) L) := hp3
  have cE1 := erase_any _ L c w3 hp3 hc
  clear cN hb3 hp3 HB2 HR2
  go_wp2_with fail
  refine cE1.mono ?_
  rintro e w4 ⟨hb4, a4, rfl, hp4⟩
  have HB4 := Lib.hid (HB3.out.trans (hb4.mono HB3.out.size))
  have HR4 := Lib.hid (HR3.out.later hb4)
  have HP4 := Lib.hid (HP3.out.later hb4)
  have cE2 := erase_any _ _ d w4 hp4 hd
  rw [htw.out] at cE2
  have HO4 := Lib.hid hp4
  obtain ⟨O, hO⟩ : ∃ O, (L.filter fun x => belowB x.c c) = O := ⟨_, rfl⟩
  have HOO := Lib.hid hO
  clear cE1 hb4 hp4 HB3 HR3 HP3 hO
  go_wp2_with fail
  refine cE2.mono ?_
  rintro e w5 ⟨hb5, a5, rfl, hp5⟩
  have HB5 := Lib.hid (HB4.out.trans (hb5.mono HB4.out.size))
  have HR5 := Lib.hid (HR4.out.later hb5)
  have HP5 := Lib.hid (HP4.out.later hb5)
  have HO5 := Lib.hid (HO4.out.later hb5)
  have HT5 := Lib.hid hp5
  have cE3 := erase_any _ L both w5 HP5.out hcd
  clear cE2 hb5 hp5 HB4 HR4 HP4 HO4
  go_wp2_with fail
  refine cE3.mono ?_
  rintro e w6 ⟨hb6, a6, rfl, hp6⟩
  have HB6 := Lib.hid (HB5.out.trans (hb6.mono HB5.out.size))
  have HR6 := Lib.hid (HR5.out.later hb6)
  have HP6 := Lib.hid (HP5.out.later hb6)
  have HO6 := Lib.hid (HO5.out.later hb6)
  have HT6 := Lib.hid (HT5.out.later hb6)
  have HU6 := Lib.hid hp6
  have h64t : (L.filter fun x => belowB x.c both).length ≤ 64 := hp6.ok.1
  obtain ⟨tw, htw'⟩ : ∃ tw, (L.filter fun x => belowB x.c both) = tw := ⟨_, rfl⟩
  rw [htw'] at HT6 HU6 h64t
  have cV1 := viewers_any _ tw w6 HT6.out
  unfold GivesVw at cV1
  obtain ⟨nt, hnt⟩ : ∃ nt, tw.length = nt := ⟨_, rfl⟩
  rw [hnt] at cV1 h64t
  have HNT := Lib.hid hnt
  clear cE3 hb6 hp6 HB5 HR5 HP5 HO5 HT5 hnt htw'
  go_wp2_with fail
  refine cV1.mono ?_
  rintro e w7 ⟨hb7, p7, k7, rfl, hr7, _⟩
  have HB7 := Lib.hid (HB6.out.trans (hb7.mono HB6.out.size))
  have HR7 := Lib.hid (HR6.out.later hb7)
  have HP7 := Lib.hid (HP6.out.later hb7)
  have HO7 := Lib.hid (HO6.out.later hb7)
  have HV7 : Hid (VwRow w7 p7 tw) := hr7
  have cV2 := viewers_any _ tw w7 (HU6.out.later hb7)
  unfold GivesVw at cV2
  rw [HNT.out] at cV2
  clear cV1 hb7 hr7 HB6 HR6 HP6 HO6 HT6 HU6
  go_wp2_with fail
  refine cV2.mono ?_
  rintro e w8 ⟨hb8, p8, k8, rfl, hr8, _⟩
  have HB8 := Lib.hid (HB7.out.trans (hb8.mono HB7.out.size))
  have HR8 := Lib.hid (HR7.out.later hb8)
  have HP8 := Lib.hid (HP7.out.later hb8)
  have HO8 := Lib.hid (HO7.out.later hb8)
  have cS := same_any w8 p7 p8 nt k7 k8 tw HNT.out h64t (HV7.out.later hb8) hr8
  clear cV2 hb8 hr8 HB7 HR7 HP7 HO7 HV7
  go_wp2_with fail
  refine cS.mono ?_
  rintro e w9 ⟨rfl, hb9⟩
  have HB9 := Lib.hid (HB8.out.trans (hb9.mono HB8.out.size))
  have HR9 := Lib.hid (HR8.out.later hb9)
  have HP9 := Lib.hid (HP8.out.later hb9)
  have HO9 := Lib.hid (HO8.out.later hb9)
  have cV3 := viewers_any _ _ w9 HO9.out
  unfold GivesVw at cV3
  rw [HOO.out] at cV3
  obtain ⟨no, hno⟩ : ∃ no, O.length = no := ⟨_, rfl⟩
  rw [hno] at cV3
  have HNO := Lib.hid hno
  clear cS hb9 HB8 HR8 HP8 HO8 hno
  go_wp2_with fail
  refine cV3.mono ?_
  rintro e wA ⟨hbA, pA, kA, rfl, _, _⟩
  have HBA := Lib.hid (HB9.out.trans (hbA.mono HB9.out.size))
  have HRA := Lib.hid (HR9.out.later hbA)
  have HPA := Lib.hid (HP9.out.later hbA)
  have HOA := Lib.hid (HO9.out.later hbA)
  have cB := polBelow_any _ L c wA HPA.out hc
  unfold GivesNm at cB
  rw [HOO.out, show (names O).length = no by unfold names; rw [List.length_map]; exact HNO.out] at cB
  clear cV3 hbA HB9 HR9 HP9 HO9
  go_wp2_with fail
  refine cB.mono ?_
  rintro e wB ⟨hbB, pB, kB, rfl, _, _⟩
  have HBB := Lib.hid (HBA.out.trans (hbB.mono HBA.out.size))
  have HRB := Lib.hid (HRA.out.later hbB)
  have HPB := Lib.hid (HPA.out.later hbB)
  have HOB := Lib.hid (HOA.out.later hbB)
  clear cB hbB HBA HRA HPA HOA
  go_wp2_with fail
  go_loopg [13] m (fun g vi wr => ∃ k : Nat, k + g = m ∧ vi = .int .i64 k ∧ Below wB.heap.size wB wr)
  case atStart => exact ⟨0, by omega, rfl, Below.refl _ _⟩
  case round =>
    obtain ⟨k, hk, rfl, hbr⟩ := hrel
    by_cases hlt : k < m
    · have hlt' : k < l.length := by rw [HMM.out]; exact hlt
      have hmem := List.getElem_mem hlt'
      obtain ⟨b1, o1, rfl, hbl, h1c⟩ := HRB.out.at k hlt'
      obtain ⟨g1, g2⟩ := h1c wr hbr
      have hxL := HMEM.out l[k] hmem
      have hx64 := HLO.out l[k] hmem
      have hPr := HPB.out.later hbr
      have hOr := HOB.out.later hbr
      have q1 := asked_below hPr hxL c hc
      have q2 := asked_above hPr hxL c hc
      have q3 := asked_below hPr hxL l[k].c hx64
      have q4 := asked_above hPr hxL l[k].c hx64
      have q5 := asked_above hPr hxL eith hcd2
      have q6 := asked_below hPr hxL both hcd
      have cC := fun W hW => clearance_any _ _ (bs l[k].s) W (hOr.later hW) (by rw [bs_size]; have := name_le (HPB.out.ok.2.2 _ hxL); unfold maxLen; omega)
      rw [bs_list, clr_filter HPB.out.ok.2.1 hxL] at cC
      have z1 := andNot_zero l[k].c c hx64 hc
      have z2 := andNot_zero c l[k].c hc hx64
      have i4 := Lib.hid (hand4.out l[k].c)
      have i3 := Lib.hid (hor3.out l[k].c)
      rw [below_self] at q3 q4
      generalize l[k] = x at *
      have HST : Hid (Stay wr b1 (o1 + k * 2) x.s wr) := ⟨g1, Below.refl _ _⟩
      have HBR := Lib.hid hbr
      obtain ⟨ns1, cQ1, cH1⟩ := q1
      obtain ⟨ns2, cQ2, cH2⟩ := q2
      obtain ⟨ns3, cQ3, cH3⟩ := q3
      obtain ⟨ns4, cQ4, cH4⟩ := q4
      obtain ⟨ns5, cQ5, cH5⟩ := q5
      obtain ⟨ns6, cQ6, cH6⟩ := q6
      generalize belowB x.c c = t1 at *
      generalize belowB c x.c = t2 at *
      generalize belowB eith x.c = t5 at *
      generalize belowB x.c both = t6 at *
      generalize belowB x.c d = td at *
      clear h1c hmem hxL hPr hOr hbr
      have hk0 : (0 : Int) ≤ (k : Int) := by omega
      have hkI : (k : Int) < (m : Int) := by omega
      have A1 : Aside _ := cQ1; have A2 : Aside _ := cQ2; have A3 : Aside _ := cQ3; have A4 : Aside _ := cQ4; have A5 : Aside _ := cQ5; have A6 : Aside _ := cQ6
      have E1 : Aside _ := cH1; have E2 : Aside _ := cH2; have E3 : Aside _ := cH3; have E4 : Aside _ := cH4; have E5 : Aside _ := cH5; have E6 : Aside _ := cH6
      have AC : Aside _ := cC
      clear cQ1 cQ2 cQ3 cQ4 cQ5 cQ6 cH1 cH2 cH3 cH4 cH5 cH6 cC
      obtain ⟨cv, fv, hcf, hfz, hcv⟩ : ∃ (cv fv : Int), (if t1 = true then Value.tuple #[.int .u64 (x.c : Nat), .int .i64 0] else Value.tuple #[.int .u64 0, .int .i64 160]) = Value.tuple #[.int .u64 cv, .int .i64 fv] ∧ (fv == 0) = t1 ∧ (t1 = true → cv = (x.c : Nat)) := by
        cases t1
        · exact ⟨0, 160, rfl, rfl, fun h => by cases h⟩
        · exact ⟨_, 0, rfl, rfl, fun _ => rfl⟩
      rw [hcf] at AC
      have HCV := Lib.hid hcv
      have HFZ := Lib.hid hfz
      have Z2 := Lib.hid z2
      clear hcf hcv hfz z2
      go_upto_region 18 with (first | (go_at_call 9; refine (AC.out _ (Below.refl _ _)).mono ?_; rintro e w' ⟨rfl, rfl⟩) | fail)
      clear z1
      go_cut [161] (fun t wx => t = .bool false ∧ Hid (Stay wr b1 (o1 + k * 2) x.s wx))
      case first =>
        clear AC
        cases t1
        · refine reg18F _ _ _ _ _ _ _ _ _ _ _ _ _ _ _ _ _ _ _ _ _ _ _ _ _ _ _ _ _ _ _ _ _ _ _ _ _ _ _ _ _ _ _ _ _ _ _ _ _ _ _ _ _ _ _ _ _ _ _ _ _ _ _ _ _ _ _ _ _ _ _ _ _ _ _ _ _ _ _ _ _ _ _ _ _ _ _ _ _ _ _ _ _ _ _ _ _ _ _ _ _ _ _ _ _ _ _ _ _ _ _ _ _ _ _ _ _ _ _ _ _ _ _ _ _ _ _ _ _ _ _ _ _ _ _ _ _ _ _ _ _ _ _ _ _ _ _ _ _ _ _ _ _ _ _ _ _ _ _ _ _ _ _ _ _ _ _ _ _ _ _ _ _ _ _ _ _ _ _ _ _ _ _ _ _ _ _ _ _ _ _ _ _ _ _ _ _ _ _ _ _ _ wr b1 o1 k m c2 x a3 c cv fv t2 HFZ.out Z2.out ns1 A1.out E1.out ns2 A2.out E2.out ns3 A3.out E3.out ns4 A4.out E4.out hk0 hkI HST.out _ ?_
          intros
          go_wp2_with fail
          go_meet
          exact ⟨rfl, by assumption⟩
        · have e := HCV.out rfl
          subst e
          refine reg18T _ _ _ _ _ _ _ _ _ _ _ _ _ _ _ _ _ _ _ _ _ _ _ _ _ _ _ _ _ _ _ _ _ _ _ _ _ _ _ _ _ _ _ _ _ _ _ _ _ _ _ _ _ _ _ _ _ _ _ _ _ _ _ _ _ _ _ _ _ _ _ _ _ _ _ _ _ _ _ _ _ _ _ _ _ _ _ _ _ _ _ _ _ _ _ _ _ _ _ _ _ _ _ _ _ _ _ _ _ _ _ _ _ _ _ _ _ _ _ _ _ _ _ _ _ _ _ _ _ _ _ _ _ _ _ _ _ _ _ _ _ _ _ _ _ _ _ _ _ _ _ _ _ _ _ _ _ _ _ _ _ _ _ _ _ _ _ _ _ _ _ _ _ _ _ _ _ _ _ _ _ _ _ _ _ _ _ _ _ _ _ _ _ _ _ _ _ _ _ _ _ _ wr b1 o1 k m c2 x a3 c fv t2 HFZ.out Z2.out ns1 A1.out E1.out ns2 A2.out E2.out ns3 A3.out E3.out ns4 A4.out E4.out hk0 hkI HST.out _ ?_
          intros
          go_wp2_with fail
          go_meet
          exact ⟨rfl, by assumption⟩
      case rest =>
        clear AC
        obtain ⟨rfl, hst⟩ := hcut
        go_wp2_with fail
        go_cut [209] (fun t wx => t = .bool false ∧ Hid (Stay wr b1 (o1 + k * 2) x.s wx))
        case first =>
          cases t5
          · cases t6
            · refine reg20FF _ _ _ _ _ _ _ _ _ _ _ _ _ _ _ _ _ _ _ _ _ _ _ _ _ _ _ _ _ _ _ _ _ _ _ _ _ _ _ _ _ _ _ _ _ _ _ _ _ _ _ _ _ _ _ _ _ _ _ _ _ _ _ _ _ _ _ _ _ _ _ _ _ _ _ _ _ _ _ _ _ _ _ _ _ _ _ _ _ _ _ _ _ _ _ _ _ _ _ _ _ _ _ _ _ _ _ _ _ _ _ _ _ _ _ _ _ _ _ _ _ _ _ _ _ _ _ _ _ _ _ _ _ _ _ _ _ _ _ _ _ _ _ _ _ _ _ _ _ _ _ _ _ _ _ _ _ _ _ _ _ _ _ _ _ _ _ _ _ _ _ _ _ _ _ _ _ _ _ _ _ _ _ _ _ _ _ _ _ _ _ _ _ _ _ _ _ _ _ _ _ _ _ _ _ wr b1 o1 k m c2 x a3 c d eith both _ hor hand ns5 A5.out E5.out ns6 A6.out E6.out hk0 hkI hst.out _ ?_
              intros
              go_wp2_with fail
              go_meet
              exact ⟨rfl, by assumption⟩
            · have e1 : t1 = true := by have := i4.out; revert this; cases t1 <;> simp
              subst e1
              refine reg20FT _ _ _ _ _ _ _ _ _ _ _ _ _ _ _ _ _ _ _ _ _ _ _ _ _ _ _ _ _ _ _ _ _ _ _ _ _ _ _ _ _ _ _ _ _ _ _ _ _ _ _ _ _ _ _ _ _ _ _ _ _ _ _ _ _ _ _ _ _ _ _ _ _ _ _ _ _ _ _ _ _ _ _ _ _ _ _ _ _ _ _ _ _ _ _ _ _ _ _ _ _ _ _ _ _ _ _ _ _ _ _ _ _ _ _ _ _ _ _ _ _ _ _ _ _ _ _ _ _ _ _ _ _ _ _ _ _ _ _ _ _ _ _ _ _ _ _ _ _ _ _ _ _ _ _ _ _ _ _ _ _ _ _ _ _ _ _ _ _ _ _ _ _ _ _ _ _ _ _ _ _ _ _ _ _ _ _ _ _ _ _ _ _ _ _ _ _ _ _ _ _ _ _ _ _ wr b1 o1 k m c2 x a3 c d eith both _ hor hand ns5 A5.out E5.out ns6 A6.out E6.out ns1 A1.out E1.out hk0 hkI hst.out _ ?_
              intros
              go_wp2_with fail
              go_meet
              exact ⟨rfl, by assumption⟩
          · have e2 : t2 = true := i3.out rfl
            subst e2
            cases t6
            · refine reg20TF _ _ _ _ _ _ _ _ _ _ _ _ _ _ _ _ _ _ _ _ _ _ _ _ _ _ _ _ _ _ _ _ _ _ _ _ _ _ _ _ _ _ _ _ _ _ _ _ _ _ _ _ _ _ _ _ _ _ _ _ _ _ _ _ _ _ _ _ _ _ _ _ _ _ _ _ _ _ _ _ _ _ _ _ _ _ _ _ _ _ _ _ _ _ _ _ _ _ _ _ _ _ _ _ _ _ _ _ _ _ _ _ _ _ _ _ _ _ _ _ _ _ _ _ _ _ _ _ _ _ _ _ _ _ _ _ _ _ _ _ _ _ _ _ _ _ _ _ _ _ _ _ _ _ _ _ _ _ _ _ _ _ _ _ _ _ _ _ _ _ _ _ _ _ _ _ _ _ _ _ _ _ _ _ _ _ _ _ _ _ _ _ _ _ _ _ _ _ _ _ _ _ _ _ _ wr b1 o1 k m c2 x a3 c d eith both _ hor hand ns5 A5.out E5.out ns6 A6.out E6.out ns2 A2.out E2.out hk0 hkI hst.out _ ?_
              intros
              go_wp2_with fail
              go_meet
              exact ⟨rfl, by assumption⟩
            · have e1 : t1 = true := by have := i4.out; revert this; cases t1 <;> simp
              subst e1
              refine reg20TT _ _ _ _ _ _ _ _ _ _ _ _ _ _ _ _ _ _ _ _ _ _ _ _ _ _ _ _ _ _ _ _ _ _ _ _ _ _ _ _ _ _ _ _ _ _ _ _ _ _ _ _ _ _ _ _ _ _ _ _ _ _ _ _ _ _ _ _ _ _ _ _ _ _ _ _ _ _ _ _ _ _ _ _ _ _ _ _ _ _ _ _ _ _ _ _ _ _ _ _ _ _ _ _ _ _ _ _ _ _ _ _ _ _ _ _ _ _ _ _ _ _ _ _ _ _ _ _ _ _ _ _ _ _ _ _ _ _ _ _ _ _ _ _ _ _ _ _ _ _ _ _ _ _ _ _ _ _ _ _ _ _ _ _ _ _ _ _ _ _ _ _ _ _ _ _ _ _ _ _ _ _ _ _ _ _ _ _ _ _ _ _ _ _ _ _ _ _ _ _ _ _ _ _ _ wr b1 o1 k m c2 x a3 c d eith both _ hor hand ns5 A5.out E5.out ns6 A6.out E6.out ns2 A2.out E2.out ns1 A1.out E1.out hk0 hkI hst.out _ ?_
              intros
              go_wp2_with fail
              go_meet
              exact ⟨rfl, by assumption⟩
        case rest =>
          clear hst
          obtain ⟨rfl, hst⟩ := hcut
          have hbn := HBR.out.trans (hst.out.2.mono HBR.out.size)
          clear hst
          go_wp2_with fail
          go_roundg (gk - 1)
          case rel => exact ⟨k + 1, by omega, by go_num, hbn⟩
          case measure => omega
    · obtain rfl : k = m := by omega
      have HE := Lib.hid (HBB.out.trans (hbr.mono HBB.out.size))
      clear hbr
      go_wp2_with fail
      go_ret
      exact ⟨rfl, HE.out⟩
end Go.Proofs.YtenbbefahpkhpaaGreatDoor
/- A law's frame, of whatever program: where the call returns true and nothing that was there has turned, the row's post holds. -/
namespace Go.Proofs.YtenbbefahpkhpaaGreatDoor
open Go Go.RowKit Go.ChangeShapes Go.WideShapes Go.ChangeAt

section
variable {H : Type} {enc : TypeId × Value → H} {P : Program}

/-- One closed fact: each type can be read and is a row of the table. -/
def typesRead (P : Program) (ts : List TypeId) : Bool := ts.all fun t => P.readableRec t && decide (t < P.types.size)

theorem below_trodAll (hl : laidOutB P = true) {W W' : World} (hb : Below W.heap.size W W') :
    ∀ {ts : List TypeId} {vs : List Value} {ds : List (DataW H)} {ps : List MemPlace}, typesRead P ts = true → DataW.TrodAll enc P W 0 (fun _ => true) true ts vs ds ps →
      DataW.TrodAll enc P W' 0 (fun b => decide (b < W.heap.size)) true ts vs ds ps
  | [], [], [], _, _, h => h
  | [], [], _ :: _, _, _, h => h.elim
  | [], _ :: _, _, _, _, h => h.elim
  | _ :: _, [], _, _, _, h => h.elim
  | _ :: _, _ :: _, [], _, _, h => h.elim
  | t :: ts, v :: vs, d :: ds, ps, hr, h => by
    obtain ⟨p, q, h1, h2, e⟩ := h
    simp only [typesRead, List.all_cons, Bool.and_eq_true] at hr
    have hlt : ∀ x ∈ p, x.block < W.heap.size := by obtain ⟨m, hm⟩ := h1; exact DataW.trod_lt m _ _ _ hm
    exact ⟨p, q, Below.trod hl hr.1.1 (of_decide_eq_true hr.1.2) h1 hb hlt, below_trodAll hl hb (by simpa [typesRead] using hr.2) h2, e⟩

theorem trodAll_len {W : World} {b : Nat} {sp : Nat → Bool} {hd : Bool} : ∀ {ts : List TypeId} {vs : List Value} {ds : List (DataW H)} {ps : List MemPlace}, DataW.TrodAll enc P W b sp hd ts vs ds ps → ds.length = ts.length
  | [], [], [], _, _ => rfl
  | [], [], _ :: _, _, h => h.elim
  | [], _ :: _, _, _, h => h.elim
  | _ :: _, [], _, _, h => h.elim
  | _ :: _, _ :: _, [], _, h => h.elim
  | _ :: _, _ :: _, _ :: _, _, h => by
    obtain ⟨_, _, _, h2, _⟩ := h
    simp only [List.length_cons, trodAll_len h2]

theorem trodAll_nil' {W : World} {b : Nat} {sp : Nat → Bool} {hd : Bool} {args : Array Value} {ds : List (DataW H)} {ps : List MemPlace} (h : DataW.TrodAll enc P W b sp hd [] args.toList ds ps) : args = #[] ∧ ds = [] ∧ ps = [] := by
  obtain ⟨h1, h2, h3⟩ := trodAll_nil h
  exact ⟨by cases args; simp_all, by assumption, by assumption⟩

/-- What a law's specification says, as one closed fact for its number of parameters. -/
def LawSpec (s : ChangeSpec) (n : Nat) : Prop := s.vars = [] ∧ ∀ (H : Type) (ds : List (DataW H)), ds.length = n → (s.fn H ds).results = [.lit (.bool true)] ∧ (s.fn H ds).args = ds ∧ (s.fn H ds).vars = []

theorem law_post (hl : laidOutB P = true) {f : Func} {s : ChangeSpec} {tb : TypeId} (hread : typesRead P f.params.toList = true) (hres : f.resultTypes = #[tb]) (hbool : P.underlying tb = some .bool)
    (hs : LawSpec s f.params.toList.length) {W W' : World} {args : Array Value} {ds gs : List (DataW H)} {before : List MemPlace}
    (hW : DataW.Whole enc P f.params.toList s.vars false W args.toList ds gs before) (bel : Below W.heap.size W W') :
    s.post enc P f false true false false W args (.bool true) W' := by
  have hW' := hW
  obtain ⟨p, q, hA, hV, rfl, hfz, hnd⟩ := hW
  have hn := trodAll_len hA
  obtain ⟨hs1, hs2⟩ := hs
  rw [hs1] at hV
  obtain ⟨rfl, rfl⟩ := trodVars_none hV
  obtain ⟨e1, e2, e3⟩ := hs2 H ds hn
  refine ⟨ds, [], _, [], p, [], hW', ?_, ?_, ?_, bel.frame _, fun h => by cases h⟩
  · rw [List.append_nil, e1, hres]
    exact trodAll_mk1 (shut_bool hbool _)
  · rw [List.append_nil, e2]
    exact below_trodAll hl bel hread hA
  · rw [List.append_nil, e3, hs1]
    rfl
end
end Go.Proofs.YtenbbefahpkhpaaGreatDoor
/- A number of 64 bits that came in. -/
namespace Go.Proofs.YtenbbefahpkhpaaGreatDoor
open Go Go.ChangeShapes Go.WideShapes Go.RowKit
theorem u64_nat {n : Int} (h : (Lit.int .u64 n).wf = true) : ∃ a : Nat, n = (a : Int) ∧ a < 18446744073709551616 := by
  simp [Lit.wf, IntKind.min, IntKind.max, IntKind.signed, IntKind.bits] at h
  exact ⟨n.toNat, by omega, by omega⟩
end Go.Proofs.YtenbbefahpkhpaaGreatDoor
/- A list of numbers that came in, opened. -/
namespace Go.Proofs.YtenbbefahpkhpaaGreatDoor
open Go Go.ChangeShapes Go.WideShapes Go.RowKit

theorem lits_len {H : Type} (k : IntKind) (zs : List Int) : (lits k zs : List (DataW H)).length = zs.length := by simp [lits]
theorem open_nums {H : Type} {enc : TypeId × Value → H} {P : Program} {W : World} {base : Nat} {k : IntKind} {t el : TypeId} {v : Value} {d : DataW H} {ps : List MemPlace} (ht : P.underlying t = some (.slice el)) (he : P.underlying el = some (.int k)) (hc : P.cellsOf el = 1) (hv : Value.okWide P W .any base t v)
    (h : DataW.Trod enc P W 0 (fun _ => true) true t v d ps) :
    ∃ (p : Option Addr) (n c : Nat) (xs : List Int), v = .slice p n c ∧ xs.length = n ∧ NumRow k W p xs ∧ (p = none → n = 0 ∧ c = 0) ∧ (∀ x ∈ xs, (Lit.int k x).wf = true) ∧ (n = 0 ∨ ∃ elems spare, d = .slice elems spare ∧ elems.length = n) := by
  obtain ⟨a0, n0, c0, rfl⟩ := okWide_slice ht hv
  obtain ⟨fuel, hf⟩ := h
  rcases Go.ChangeShapes.open_ints ht he hc hf with ⟨hcs, _⟩ | ⟨a, len, cap, zs, hcs, _, hl, _, hlen, hx, hcell, hwf⟩
  · simp [Value.cells] at hcs
    obtain ⟨rfl, rfl, rfl⟩ := hcs
    exact ⟨none, 0, 0, [], rfl, rfl, fun i hi => absurd hi (Nat.not_lt_zero _), fun _ => ⟨rfl, rfl⟩, fun x hx => (by cases hx), .inl rfl⟩
  · simp [Value.cells] at hcs
    obtain ⟨rfl, rfl, rfl⟩ := hcs
    simp only [if_true] at hlen
    simp only [Prod.mk.injEq] at hx
    have htl : (zs.take n0).length = n0 := by rw [List.length_take]; omega
    refine ⟨some a, n0, c0, zs.take n0, rfl, htl, ?_, (fun e => by cases e), fun x hx' => hwf x (List.mem_of_mem_take hx'), .inr ⟨_, _, hx.1, by rw [lits_len, htl]⟩⟩
    intro i hi
    obtain ⟨b, off, rfl, hat⟩ := ints_at hcell (by omega)
    have hi2 : i < zs.length := by omega
    have hcl := hat i hi2
    rw [List.getD_eq_getElem?_getD, List.getElem?_eq_getElem hi2] at hcl
    refine ⟨b, off, rfl, ?_, by rw [hcl, List.getElem_take]; rfl⟩
    have := World.block_lt_of_cell? W _ hcl
    exact this
end Go.Proofs.YtenbbefahpkhpaaGreatDoor
/- What a row's slice of labels gives the walks. -/
namespace Go.Proofs.YtenbbefahpkhpaaGreatDoor
open Go Go.RowKit

theorem labRow_of {W : World} {p : Option Addr} {xs : List Int} (h : NumRow .u64 W p xs) (hw : ∀ x ∈ xs, (Lit.int .u64 x).wf = true) : LabRow W p (xs.map Int.toNat) := fun i hi => by
  rw [List.length_map] at hi
  obtain ⟨b, off, e, hlt, hc⟩ := h i hi
  refine ⟨b, off, e, hlt, ?_⟩
  obtain ⟨a, ha, _⟩ := u64_nat (hw _ (List.getElem_mem hi))
  rw [hc, List.getElem_map, ha, Int.toNat_natCast]
theorem lab_lt {xs : List Int} (hw : ∀ x ∈ xs, (Lit.int .u64 x).wf = true) : ∀ c ∈ xs.map Int.toNat, c < 18446744073709551616 := fun c hc => by
  obtain ⟨x, hx, rfl⟩ := List.mem_map.1 hc
  obtain ⟨a, ha, hlt⟩ := u64_nat (hw _ hx)
  rw [ha, Int.toNat_natCast]; exact hlt
end Go.Proofs.YtenbbefahpkhpaaGreatDoor
/- What a row's listed variables give the walks: the library's table for counting zeros. -/
namespace Go.Proofs.YtenbbefahpkhpaaGreatDoor
open Go.RowKit

theorem bt_data : (Rows.laid_math_bits_deBruijn64tab : DataW Unit) = Lib.tabData .u8 (Lib.deBruijn64tab.map fun n : Nat => (n : Int)) := by kernel_rfl
theorem gBtType : (Tryz.prog.globals[0]?).map (·.type) = some 136 := by kernel_rfl

/-- Out of whatever list that has the table. -/
theorem btab_of {W : World} {l : List (String × DataW Unit)} (hl : (l.filter fun x => x.1 == "math/bits.deBruijn64tab") = [("math/bits.deBruijn64tab", Rows.laid_math_bits_deBruijn64tab)]) (h : laidMetH Tryz.prog l W) : BTab W := by
  have h1 := h.filter (fun x => x.1 == "math/bits.deBruijn64tab")
  rw [hl, bt_data, MakeChecks.laidMetH_plain _ _ _ (by kernel_rfl)] at h1
  exact Lib.tabIs_of_head (rest := []) gBt gBtType Tryz.underlying136 Tryz.underlying5 (by kernel_rfl) (by kernel_rfl) h1
end Go.Proofs.YtenbbefahpkhpaaGreatDoor
/- What a row's listed variables give: strconv's two errors are values of the interface. -/
namespace Go.Proofs.YtenbbefahpkhpaaGreatDoor
open Go.RowKit

theorem iface_of_trod {H : Type} {enc : TypeId × Value → H} {P : Program} {w : World} {base : Nat} {spare : Nat → Bool} {held : Bool} {fuel : Nat} {t : TypeId} {cs : List Value} {x : DataW H × List MemPlace} {ms}
    (ht : P.underlying t = some (.interface ms)) (h : DataW.trod enc P w base spare held fuel t cs = some x) : cs = [.nilIface] ∨ ∃ u v, cs = [.iface u v] := by
  cases fuel with
  | zero => simp [DataW.trod] at h
  | succ n =>
    unfold DataW.trod at h
    rw [ht] at h
    split at h <;> simp_all

theorem ev_of_head {W : World} {name : String} {d : DataW Unit} {g : Nat} {t : TypeId} {ms} (hg : Tryz.prog.globalNamed name = some g) (hty : (Tryz.prog.globals[g]?).map (·.type) = some t) (ht : Tryz.prog.underlying t = some (.interface ms))
    (h : laidMet Tryz.prog [(name, d)] W) : EvAt g W := by
  obtain ⟨ps, ⟨g', t', cs, fuel, p, q, hg', ht', hvar, hd, _, _⟩, _⟩ := h
  obtain rfl := Option.some.inj (hg.symm.trans hg')
  obtain rfl := Option.some.inj (hty.symm.trans ht')
  have hc := World.var?_cell hg hvar 0
  rcases iface_of_trod ht hd with h1 | ⟨u, v, h1⟩
  · exact ⟨.nilIface, by rw [hc, ← Array.getElem?_toList, h1]; rfl, Or.inl rfl⟩
  · exact ⟨.iface u v, by rw [hc, ← Array.getElem?_toList, h1]; rfl, Or.inr ⟨u, v, rfl⟩⟩

theorem gEs : Tryz.prog.globalNamed "strconv.ErrSyntax" = some 3 := by kernel_rfl
theorem gEsT : (Tryz.prog.globals[3]?).map (·.type) = some 94 := by kernel_rfl
theorem gEr : Tryz.prog.globalNamed "strconv.ErrRange" = some 4 := by kernel_rfl
theorem gErT : (Tryz.prog.globals[4]?).map (·.type) = some 94 := by kernel_rfl

/-- Out of whatever list that has the two. -/
theorem evw_of {W : World} {l : List (String × DataW Unit)} (hs : (l.filter fun x => x.1 == "strconv.ErrSyntax") = [("strconv.ErrSyntax", Rows.laid_strconv_ErrSyntax)]) (hr : (l.filter fun x => x.1 == "strconv.ErrRange") = [("strconv.ErrRange", Rows.laid_strconv_ErrRange)]) (h : laidMetH Tryz.prog l W) : EvW W := by
  have h1 := h.filter (fun x => x.1 == "strconv.ErrSyntax")
  have h2 := h.filter (fun x => x.1 == "strconv.ErrRange")
  rw [hs, MakeChecks.laidMetH_plain _ _ _ (by kernel_rfl)] at h1
  rw [hr, MakeChecks.laidMetH_plain _ _ _ (by kernel_rfl)] at h2
  exact ⟨ev_of_head gEs gEsT Tryz.underlying94 h1, ev_of_head gEr gErT Tryz.underlying94 h2⟩
end Go.Proofs.YtenbbefahpkhpaaGreatDoor
