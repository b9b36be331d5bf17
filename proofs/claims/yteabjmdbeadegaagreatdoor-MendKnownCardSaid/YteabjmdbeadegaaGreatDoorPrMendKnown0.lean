/-
  PLAIN: the Go function lintel/lintellaw26.MendKnown, called in one state of a run: run in pieces by the evaluator, which is sound.
-/
import Derived.Test.YteabjmdbeadegaaGreatDoorChecked
import Derived.Test.YteabjmdbeadegaaGreatDoorPrMendKnown0T0
import Derived.Test.YteabjmdbeadegaaGreatDoorPrMendKnown0T1
import Derived.Test.YteabjmdbeadegaaGreatDoorPrMendKnown0T2
import Derived.Test.YteabjmdbeadegaaGreatDoorPrMendKnown0T3
import Derived.Test.YteabjmdbeadegaaGreatDoorPrMendKnown0T4
import Derived.Test.YteabjmdbeadegaaGreatDoorPrMendKnown0T5
import Derived.Test.YteabjmdbeadegaaGreatDoorPrMendKnown0T6
import Derived.Test.YteabjmdbeadegaaGreatDoorPrMendKnown0T7
import Derived.Test.YteabjmdbeadegaaGreatDoorPrMendKnown0T8
namespace Go.Proofs.YteabjmdbeadegaaGreatDoor.rMendKnown0
open Go.RowKit Ev
open cMendKnown
theorem g560 : GoodM Tryz.prog Tryz.f3 s0 v1 s1 S560 n560 L560 e394 t282 := GoodM.done c560
theorem g559 : GoodM Tryz.prog Tryz.f3 s0 v1 s1 S559 n559 L559 e394 t282 := GoodM.nav3 (n := 2) g560
theorem g558 : GoodM Tryz.prog Tryz.f3 s0 v1 s1 S558 n558 L558 e393 t281 := by rw [z558]; exact GoodM.ops (named_of namesOk) hF0 c558 g559
theorem g557 : GoodM Tryz.prog Tryz.f3 s0 v1 s1 S557 n557 L557 e392 t281 := GoodM.back c557 g558
theorem g556 : GoodM Tryz.prog Tryz.f3 s0 v1 s1 S556 n556 L556 e392 t281 := GoodM.nav3 (n := 2) g557
theorem g555 : GoodM Tryz.prog Tryz.f3 s0 v1 s1 S555 n555 L555 e391 t280 := by rw [z555]; exact GoodM.ops (named_of namesOk) hF0 c555 g556
theorem g554 : GoodM Tryz.prog Tryz.f3 s0 v1 s1 S554 n554 L554 e390 t280 := GoodM.back c554 g555
theorem g553 : GoodM Tryz.prog Tryz.f3 s0 v1 s1 S553 n553 L553 e389 t279 := GoodM.step hG c553 g554
theorem g552 : GoodM Tryz.prog Tryz.f3 s0 v1 s1 S552 n552 L552 e388 t278 := GoodM.step hG c552 g553
theorem g551 : GoodM Tryz.prog Tryz.f3 s0 v1 s1 S551 n551 L551 e387 t278 := by rw [z551]; exact GoodM.enter (named_of namesOk) c551 g552
theorem g550 : GoodM Tryz.prog Tryz.f3 s0 v1 s1 S550 n550 L550 e386 t277 := by rw [z550]; exact GoodM.ops (named_of namesOk) hF0 c550 g551
theorem g549 : GoodM Tryz.prog Tryz.f3 s0 v1 s1 S549 n549 L549 e386 t277 := GoodM.nav3 (n := 1) g550
theorem g548 : GoodM Tryz.prog Tryz.f3 s0 v1 s1 S548 n548 L548 e385 t276 := GoodM.step hG c548 g549
theorem g547 : GoodM Tryz.prog Tryz.f3 s0 v1 s1 S547 n547 L547 e384 t276 := by rw [z547]; exact GoodM.enter (named_of namesOk) c547 g548
theorem g546 : GoodM Tryz.prog Tryz.f3 s0 v1 s1 S546 n546 L546 e383 t275 := by rw [z546]; exact GoodM.ops (named_of namesOk) hF0 c546 g547
theorem g545 : GoodM Tryz.prog Tryz.f3 s0 v1 s1 S545 n545 L545 e382 t275 := GoodM.back c545 g546
theorem g544 : GoodM Tryz.prog Tryz.f3 s0 v1 s1 S544 n544 L544 e382 t275 := GoodM.nav3 (n := 2) g545
theorem g543 : GoodM Tryz.prog Tryz.f3 s0 v1 s1 S543 n543 L543 e381 t274 := by rw [z543]; exact GoodM.ops (named_of namesOk) hF0 c543 g544
theorem g542 : GoodM Tryz.prog Tryz.f3 s0 v1 s1 S542 n542 L542 e380 t274 := GoodM.back c542 g543
theorem g541 : GoodM Tryz.prog Tryz.f3 s0 v1 s1 S541 n541 L541 e379 t273 := GoodM.step hG c541 g542
theorem g540 : GoodM Tryz.prog Tryz.f3 s0 v1 s1 S540 n540 L540 e378 t272 := GoodM.step hG c540 g541
theorem g539 : GoodM Tryz.prog Tryz.f3 s0 v1 s1 S539 n539 L539 e377 t272 := by rw [z539]; exact GoodM.enter (named_of namesOk) c539 g540
theorem g538 : GoodM Tryz.prog Tryz.f3 s0 v1 s1 S538 n538 L538 e376 t271 := by rw [z538]; exact GoodM.ops (named_of namesOk) hF0 c538 g539
theorem g537 : GoodM Tryz.prog Tryz.f3 s0 v1 s1 S537 n537 L537 e376 t271 := GoodM.nav3 (n := 1) g538
theorem g536 : GoodM Tryz.prog Tryz.f3 s0 v1 s1 S536 n536 L536 e375 t270 := GoodM.step hG c536 g537
theorem g535 : GoodM Tryz.prog Tryz.f3 s0 v1 s1 S535 n535 L535 e374 t270 := by rw [z535]; exact GoodM.enter (named_of namesOk) c535 g536
theorem g534 : GoodM Tryz.prog Tryz.f3 s0 v1 s1 S534 n534 L534 e373 t269 := by rw [z534]; exact GoodM.ops (named_of namesOk) hF0 c534 g535
theorem g533 : GoodM Tryz.prog Tryz.f3 s0 v1 s1 S533 n533 L533 e373 t269 := GoodM.nav3 (n := 3) g534
theorem g532 : GoodM Tryz.prog Tryz.f3 s0 v1 s1 S532 n532 L532 e372 t268 := by rw [z532]; exact GoodM.ops (named_of namesOk) hF0 c532 g533
theorem g531 : GoodM Tryz.prog Tryz.f3 s0 v1 s1 S531 n531 L531 e371 t268 := GoodM.back c531 g532
theorem g530 : GoodM Tryz.prog Tryz.f3 s0 v1 s1 S530 n530 L530 e371 t268 := GoodM.nav3 (n := 2) g531
theorem g529 : GoodM Tryz.prog Tryz.f3 s0 v1 s1 S529 n529 L529 e370 t267 := by rw [z529]; exact GoodM.ops (named_of namesOk) hF0 c529 g530
theorem g528 : GoodM Tryz.prog Tryz.f3 s0 v1 s1 S528 n528 L528 e369 t267 := GoodM.back c528 g529
theorem g527 : GoodM Tryz.prog Tryz.f3 s0 v1 s1 S527 n527 L527 e368 t266 := GoodM.step hG c527 g528
theorem g526 : GoodM Tryz.prog Tryz.f3 s0 v1 s1 S526 n526 L526 e368 t266 := GoodM.nav3 (n := 2) g527
theorem g525 : GoodM Tryz.prog Tryz.f3 s0 v1 s1 S525 n525 L525 e367 t265 := by rw [z525]; exact GoodM.ops (named_of namesOk) hF0 c525 g526
theorem g524 : GoodM Tryz.prog Tryz.f3 s0 v1 s1 S524 n524 L524 e366 t265 := GoodM.back c524 g525
theorem g523 : GoodM Tryz.prog Tryz.f3 s0 v1 s1 S523 n523 L523 e365 t264 := GoodM.step hG c523 g524
theorem g522 : GoodM Tryz.prog Tryz.f3 s0 v1 s1 S522 n522 L522 e365 t264 := GoodM.nav3 (n := 3) g523
theorem g521 : GoodM Tryz.prog Tryz.f3 s0 v1 s1 S521 n521 L521 e364 t263 := GoodM.step hG c521 g522
theorem g520 : GoodM Tryz.prog Tryz.f3 s0 v1 s1 S520 n520 L520 e364 t263 := GoodM.nav3 (n := 1) g521
theorem g519 : GoodM Tryz.prog Tryz.f3 s0 v1 s1 S519 n519 L519 e363 t262 := GoodM.rounds hG x519 y519 c519 g520
theorem g518 : GoodM Tryz.prog Tryz.f3 s0 v1 s1 S518 n518 L518 e362 t261 := GoodM.rounds hG x518 y518 c518 g519
theorem g517 : GoodM Tryz.prog Tryz.f3 s0 v1 s1 S517 n517 L517 e361 t260 := GoodM.rounds hG x517 y517 c517 g518
theorem g516 : GoodM Tryz.prog Tryz.f3 s0 v1 s1 S516 n516 L516 e361 t260 := GoodM.nav3 (n := 1) g517
theorem g515 : GoodM Tryz.prog Tryz.f3 s0 v1 s1 S515 n515 L515 e360 t259 := GoodM.step hG c515 g516
theorem g514 : GoodM Tryz.prog Tryz.f3 s0 v1 s1 S514 n514 L514 e360 t259 := GoodM.nav3 (n := 2) g515
theorem g513 : GoodM Tryz.prog Tryz.f3 s0 v1 s1 S513 n513 L513 e359 t258 := GoodM.step hG c513 g514
theorem g512 : GoodM Tryz.prog Tryz.f3 s0 v1 s1 S512 n512 L512 e359 t258 := GoodM.nav3 (n := 2) g513
theorem g511 : GoodM Tryz.prog Tryz.f3 s0 v1 s1 S511 n511 L511 e358 t258 := GoodM.back c511 g512
theorem g510 : GoodM Tryz.prog Tryz.f3 s0 v1 s1 S510 n510 L510 e357 t257 := GoodM.step hG c510 g511
theorem g509 : GoodM Tryz.prog Tryz.f3 s0 v1 s1 S509 n509 L509 e357 t257 := GoodM.nav3 (n := 2) g510
theorem g508 : GoodM Tryz.prog Tryz.f3 s0 v1 s1 S508 n508 L508 e356 t256 := by rw [z508]; exact GoodM.ops (named_of namesOk) hF0 c508 g509
theorem g507 : GoodM Tryz.prog Tryz.f3 s0 v1 s1 S507 n507 L507 e355 t256 := GoodM.back c507 g508
theorem g506 : GoodM Tryz.prog Tryz.f3 s0 v1 s1 S506 n506 L506 e354 t255 := GoodM.step hG c506 g507
theorem g505 : GoodM Tryz.prog Tryz.f3 s0 v1 s1 S505 n505 L505 e353 t254 := GoodM.step hG c505 g506
theorem g504 : GoodM Tryz.prog Tryz.f3 s0 v1 s1 S504 n504 L504 e352 t254 := by rw [z504]; exact GoodM.enter (named_of namesOk) c504 g505
theorem g503 : GoodM Tryz.prog Tryz.f3 s0 v1 s1 S503 n503 L503 e351 t253 := by rw [z503]; exact GoodM.ops (named_of namesOk) hF0 c503 g504
theorem g502 : GoodM Tryz.prog Tryz.f3 s0 v1 s1 S502 n502 L502 e351 t253 := GoodM.nav3 (n := 1) g503
theorem g501 : GoodM Tryz.prog Tryz.f3 s0 v1 s1 S501 n501 L501 e350 t253 := by rw [z501]; exact GoodM.enter (named_of namesOk) c501 g502
theorem g500 : GoodM Tryz.prog Tryz.f3 s0 v1 s1 S500 n500 L500 e349 t252 := by rw [z500]; exact GoodM.ops (named_of namesOk) hF0 c500 g501
theorem g499 : GoodM Tryz.prog Tryz.f3 s0 v1 s1 S499 n499 L499 e349 t252 := GoodM.nav3 (n := 1) g500
theorem g498 : GoodM Tryz.prog Tryz.f3 s0 v1 s1 S498 n498 L498 e348 t251 := GoodM.step hG c498 g499
theorem g497 : GoodM Tryz.prog Tryz.f3 s0 v1 s1 S497 n497 L497 e348 t251 := GoodM.nav3 (n := 1) g498
theorem g496 : GoodM Tryz.prog Tryz.f3 s0 v1 s1 S496 n496 L496 e347 t250 := GoodM.step hG c496 g497
theorem g495 : GoodM Tryz.prog Tryz.f3 s0 v1 s1 S495 n495 L495 e347 t250 := GoodM.nav3 (n := 1) g496
theorem g494 : GoodM Tryz.prog Tryz.f3 s0 v1 s1 S494 n494 L494 e346 t249 := GoodM.rounds hG x494 y494 c494 g495
theorem g493 : GoodM Tryz.prog Tryz.f3 s0 v1 s1 S493 n493 L493 e346 t249 := GoodM.nav3 (n := 1) g494
theorem g492 : GoodM Tryz.prog Tryz.f3 s0 v1 s1 S492 n492 L492 e345 t248 := GoodM.step hG c492 g493
theorem g491 : GoodM Tryz.prog Tryz.f3 s0 v1 s1 S491 n491 L491 e345 t248 := GoodM.nav3 (n := 2) g492
theorem g490 : GoodM Tryz.prog Tryz.f3 s0 v1 s1 S490 n490 L490 e344 t247 := GoodM.step hG c490 g491
theorem g489 : GoodM Tryz.prog Tryz.f3 s0 v1 s1 S489 n489 L489 e344 t247 := GoodM.nav3 (n := 2) g490
theorem g488 : GoodM Tryz.prog Tryz.f3 s0 v1 s1 S488 n488 L488 e343 t247 := GoodM.back c488 g489
theorem g487 : GoodM Tryz.prog Tryz.f3 s0 v1 s1 S487 n487 L487 e342 t246 := GoodM.step hG c487 g488
theorem g486 : GoodM Tryz.prog Tryz.f3 s0 v1 s1 S486 n486 L486 e342 t246 := GoodM.nav3 (n := 2) g487
theorem g485 : GoodM Tryz.prog Tryz.f3 s0 v1 s1 S485 n485 L485 e341 t245 := by rw [z485]; exact GoodM.ops (named_of namesOk) hF0 c485 g486
theorem g484 : GoodM Tryz.prog Tryz.f3 s0 v1 s1 S484 n484 L484 e340 t245 := GoodM.back c484 g485
theorem g483 : GoodM Tryz.prog Tryz.f3 s0 v1 s1 S483 n483 L483 e339 t244 := GoodM.step hG c483 g484
theorem g482 : GoodM Tryz.prog Tryz.f3 s0 v1 s1 S482 n482 L482 e338 t243 := GoodM.step hG c482 g483
theorem g481 : GoodM Tryz.prog Tryz.f3 s0 v1 s1 S481 n481 L481 e337 t243 := by rw [z481]; exact GoodM.enter (named_of namesOk) c481 g482
theorem g480 : GoodM Tryz.prog Tryz.f3 s0 v1 s1 S480 n480 L480 e336 t242 := by rw [z480]; exact GoodM.ops (named_of namesOk) hF0 c480 g481
theorem g479 : GoodM Tryz.prog Tryz.f3 s0 v1 s1 S479 n479 L479 e336 t242 := GoodM.nav3 (n := 1) g480
theorem g478 : GoodM Tryz.prog Tryz.f3 s0 v1 s1 S478 n478 L478 e335 t242 := by rw [z478]; exact GoodM.enter (named_of namesOk) c478 g479
theorem g477 : GoodM Tryz.prog Tryz.f3 s0 v1 s1 S477 n477 L477 e334 t241 := by rw [z477]; exact GoodM.ops (named_of namesOk) hF0 c477 g478
theorem g476 : GoodM Tryz.prog Tryz.f3 s0 v1 s1 S476 n476 L476 e334 t241 := GoodM.nav3 (n := 1) g477
theorem g475 : GoodM Tryz.prog Tryz.f3 s0 v1 s1 S475 n475 L475 e333 t240 := GoodM.step hG c475 g476
theorem g474 : GoodM Tryz.prog Tryz.f3 s0 v1 s1 S474 n474 L474 e333 t240 := GoodM.nav3 (n := 1) g475
theorem g473 : GoodM Tryz.prog Tryz.f3 s0 v1 s1 S473 n473 L473 e332 t239 := GoodM.step hG c473 g474
theorem g472 : GoodM Tryz.prog Tryz.f3 s0 v1 s1 S472 n472 L472 e332 t239 := GoodM.nav3 (n := 1) g473
theorem g471 : GoodM Tryz.prog Tryz.f3 s0 v1 s1 S471 n471 L471 e331 t238 := GoodM.rounds hG x471 y471 c471 g472
theorem g470 : GoodM Tryz.prog Tryz.f3 s0 v1 s1 S470 n470 L470 e331 t238 := GoodM.nav3 (n := 2) g471
theorem g469 : GoodM Tryz.prog Tryz.f3 s0 v1 s1 S469 n469 L469 e330 t237 := GoodM.step hG c469 g470
theorem g468 : GoodM Tryz.prog Tryz.f3 s0 v1 s1 S468 n468 L468 e329 t237 := by rw [z468]; exact GoodM.enter (named_of namesOk) c468 g469
theorem g467 : GoodM Tryz.prog Tryz.f3 s0 v1 s1 S467 n467 L467 e328 t236 := by rw [z467]; exact GoodM.ops (named_of namesOk) hF0 c467 g468
theorem g466 : GoodM Tryz.prog Tryz.f3 s0 v1 s1 S466 n466 L466 e328 t236 := GoodM.nav3 (n := 1) g467
theorem g465 : GoodM Tryz.prog Tryz.f3 s0 v1 s1 S465 n465 L465 e327 t235 := GoodM.step hG c465 g466
theorem g464 : GoodM Tryz.prog Tryz.f3 s0 v1 s1 S464 n464 L464 e326 t235 := by rw [z464]; exact GoodM.enter (named_of namesOk) c464 g465
theorem g463 : GoodM Tryz.prog Tryz.f3 s0 v1 s1 S463 n463 L463 e325 t234 := by rw [z463]; exact GoodM.ops (named_of namesOk) hF0 c463 g464
theorem g462 : GoodM Tryz.prog Tryz.f3 s0 v1 s1 S462 n462 L462 e325 t234 := GoodM.nav3 (n := 1) g463
theorem g461 : GoodM Tryz.prog Tryz.f3 s0 v1 s1 S461 n461 L461 e324 t233 := GoodM.step hG c461 g462
theorem g460 : GoodM Tryz.prog Tryz.f3 s0 v1 s1 S460 n460 L460 e324 t233 := GoodM.nav3 (n := 2) g461
theorem g459 : GoodM Tryz.prog Tryz.f3 s0 v1 s1 S459 n459 L459 e323 t232 := by rw [z459]; exact GoodM.ops (named_of namesOk) hF0 c459 g460
theorem g458 : GoodM Tryz.prog Tryz.f3 s0 v1 s1 S458 n458 L458 e322 t232 := GoodM.back c458 g459
theorem g457 : GoodM Tryz.prog Tryz.f3 s0 v1 s1 S457 n457 L457 e321 t231 := GoodM.step hG c457 g458
theorem g456 : GoodM Tryz.prog Tryz.f3 s0 v1 s1 S456 n456 L456 e321 t231 := GoodM.nav3 (n := 2) g457
theorem g455 : GoodM Tryz.prog Tryz.f3 s0 v1 s1 S455 n455 L455 e320 t230 := by rw [z455]; exact GoodM.ops (named_of namesOk) hF0 c455 g456
theorem g454 : GoodM Tryz.prog Tryz.f3 s0 v1 s1 S454 n454 L454 e319 t230 := GoodM.back c454 g455
theorem g453 : GoodM Tryz.prog Tryz.f3 s0 v1 s1 S453 n453 L453 e318 t229 := GoodM.step hG c453 g454
theorem g452 : GoodM Tryz.prog Tryz.f3 s0 v1 s1 S452 n452 L452 e317 t228 := GoodM.step hG c452 g453
theorem g451 : GoodM Tryz.prog Tryz.f3 s0 v1 s1 S451 n451 L451 e316 t227 := GoodM.step hG c451 g452
theorem g450 : GoodM Tryz.prog Tryz.f3 s0 v1 s1 S450 n450 L450 e315 t227 := by rw [z450]; exact GoodM.enter (named_of namesOk) c450 g451
theorem g449 : GoodM Tryz.prog Tryz.f3 s0 v1 s1 S449 n449 L449 e314 t226 := by rw [z449]; exact GoodM.ops (named_of namesOk) hF0 c449 g450
theorem g448 : GoodM Tryz.prog Tryz.f3 s0 v1 s1 S448 n448 L448 e314 t226 := GoodM.nav3 (n := 1) g449
theorem g447 : GoodM Tryz.prog Tryz.f3 s0 v1 s1 S447 n447 L447 e313 t225 := GoodM.step hG c447 g448
theorem g446 : GoodM Tryz.prog Tryz.f3 s0 v1 s1 S446 n446 L446 e312 t225 := by rw [z446]; exact GoodM.enter (named_of namesOk) c446 g447
theorem g445 : GoodM Tryz.prog Tryz.f3 s0 v1 s1 S445 n445 L445 e311 t224 := by rw [z445]; exact GoodM.ops (named_of namesOk) hF0 c445 g446
theorem g444 : GoodM Tryz.prog Tryz.f3 s0 v1 s1 S444 n444 L444 e311 t224 := GoodM.nav3 (n := 1) g445
theorem g443 : GoodM Tryz.prog Tryz.f3 s0 v1 s1 S443 n443 L443 e310 t223 := GoodM.step hG c443 g444
theorem g442 : GoodM Tryz.prog Tryz.f3 s0 v1 s1 S442 n442 L442 e309 t223 := by rw [z442]; exact GoodM.enter (named_of namesOk) c442 g443
theorem g441 : GoodM Tryz.prog Tryz.f3 s0 v1 s1 S441 n441 L441 e308 t222 := by rw [z441]; exact GoodM.ops (named_of namesOk) hF0 c441 g442
theorem g440 : GoodM Tryz.prog Tryz.f3 s0 v1 s1 S440 n440 L440 e308 t222 := GoodM.nav3 (n := 1) g441
theorem g439 : GoodM Tryz.prog Tryz.f3 s0 v1 s1 S439 n439 L439 e307 t221 := GoodM.step hG c439 g440
theorem g438 : GoodM Tryz.prog Tryz.f3 s0 v1 s1 S438 n438 L438 e307 t221 := GoodM.nav3 (n := 2) g439
theorem g437 : GoodM Tryz.prog Tryz.f3 s0 v1 s1 S437 n437 L437 e306 t220 := by rw [z437]; exact GoodM.ops (named_of namesOk) hF0 c437 g438
theorem g436 : GoodM Tryz.prog Tryz.f3 s0 v1 s1 S436 n436 L436 e305 t220 := GoodM.back c436 g437
theorem g435 : GoodM Tryz.prog Tryz.f3 s0 v1 s1 S435 n435 L435 e304 t219 := GoodM.step hG c435 g436
theorem g434 : GoodM Tryz.prog Tryz.f3 s0 v1 s1 S434 n434 L434 e304 t219 := GoodM.nav3 (n := 1) g435
theorem g433 : GoodM Tryz.prog Tryz.f3 s0 v1 s1 S433 n433 L433 e303 t218 := GoodM.step hG c433 g434
theorem g432 : GoodM Tryz.prog Tryz.f3 s0 v1 s1 S432 n432 L432 e303 t218 := GoodM.nav3 (n := 2) g433
theorem g431 : GoodM Tryz.prog Tryz.f3 s0 v1 s1 S431 n431 L431 e302 t217 := by rw [z431]; exact GoodM.ops (named_of namesOk) hF0 c431 g432
theorem g430 : GoodM Tryz.prog Tryz.f3 s0 v1 s1 S430 n430 L430 e301 t217 := GoodM.back c430 g431
theorem g429 : GoodM Tryz.prog Tryz.f3 s0 v1 s1 S429 n429 L429 e301 t217 := GoodM.nav3 (n := 2) g430
theorem g428 : GoodM Tryz.prog Tryz.f3 s0 v1 s1 S428 n428 L428 e300 t216 := by rw [z428]; exact GoodM.ops (named_of namesOk) hF0 c428 g429
theorem g427 : GoodM Tryz.prog Tryz.f3 s0 v1 s1 S427 n427 L427 e299 t216 := GoodM.back c427 g428
theorem g426 : GoodM Tryz.prog Tryz.f3 s0 v1 s1 S426 n426 L426 e298 t215 := GoodM.step hG c426 g427
theorem g425 : GoodM Tryz.prog Tryz.f3 s0 v1 s1 S425 n425 L425 e298 t215 := GoodM.nav3 (n := 2) g426
theorem g424 : GoodM Tryz.prog Tryz.f3 s0 v1 s1 S424 n424 L424 e297 t214 := by rw [z424]; exact GoodM.ops (named_of namesOk) hF0 c424 g425
theorem g423 : GoodM Tryz.prog Tryz.f3 s0 v1 s1 S423 n423 L423 e296 t214 := GoodM.back c423 g424
theorem g422 : GoodM Tryz.prog Tryz.f3 s0 v1 s1 S422 n422 L422 e295 t213 := GoodM.step hG c422 g423
theorem g421 : GoodM Tryz.prog Tryz.f3 s0 v1 s1 S421 n421 L421 e295 t213 := GoodM.nav3 (n := 3) g422
theorem g420 : GoodM Tryz.prog Tryz.f3 s0 v1 s1 S420 n420 L420 e294 t212 := GoodM.step hG c420 g421
theorem g419 : GoodM Tryz.prog Tryz.f3 s0 v1 s1 S419 n419 L419 e294 t212 := GoodM.nav3 (n := 1) g420
theorem g418 : GoodM Tryz.prog Tryz.f3 s0 v1 s1 S418 n418 L418 e293 t211 := GoodM.rounds hG x418 y418 c418 g419
theorem g417 : GoodM Tryz.prog Tryz.f3 s0 v1 s1 S417 n417 L417 e292 t210 := GoodM.rounds hG x417 y417 c417 g418
theorem g416 : GoodM Tryz.prog Tryz.f3 s0 v1 s1 S416 n416 L416 e291 t209 := GoodM.rounds hG x416 y416 c416 g417
theorem g415 : GoodM Tryz.prog Tryz.f3 s0 v1 s1 S415 n415 L415 e291 t209 := GoodM.nav3 (n := 1) g416
theorem g414 : GoodM Tryz.prog Tryz.f3 s0 v1 s1 S414 n414 L414 e290 t208 := GoodM.step hG c414 g415
theorem g413 : GoodM Tryz.prog Tryz.f3 s0 v1 s1 S413 n413 L413 e290 t208 := GoodM.nav3 (n := 2) g414
theorem g412 : GoodM Tryz.prog Tryz.f3 s0 v1 s1 S412 n412 L412 e289 t207 := GoodM.step hG c412 g413
theorem g411 : GoodM Tryz.prog Tryz.f3 s0 v1 s1 S411 n411 L411 e289 t207 := GoodM.nav3 (n := 2) g412
theorem g410 : GoodM Tryz.prog Tryz.f3 s0 v1 s1 S410 n410 L410 e288 t207 := GoodM.back c410 g411
theorem g409 : GoodM Tryz.prog Tryz.f3 s0 v1 s1 S409 n409 L409 e287 t206 := GoodM.step hG c409 g410
theorem g408 : GoodM Tryz.prog Tryz.f3 s0 v1 s1 S408 n408 L408 e287 t206 := GoodM.nav3 (n := 2) g409
theorem g407 : GoodM Tryz.prog Tryz.f3 s0 v1 s1 S407 n407 L407 e286 t205 := by rw [z407]; exact GoodM.ops (named_of namesOk) hF0 c407 g408
theorem g406 : GoodM Tryz.prog Tryz.f3 s0 v1 s1 S406 n406 L406 e285 t205 := GoodM.back c406 g407
theorem g405 : GoodM Tryz.prog Tryz.f3 s0 v1 s1 S405 n405 L405 e284 t204 := GoodM.step hG c405 g406
theorem g404 : GoodM Tryz.prog Tryz.f3 s0 v1 s1 S404 n404 L404 e283 t203 := GoodM.step hG c404 g405
theorem g403 : GoodM Tryz.prog Tryz.f3 s0 v1 s1 S403 n403 L403 e282 t203 := by rw [z403]; exact GoodM.enter (named_of namesOk) c403 g404
theorem g402 : GoodM Tryz.prog Tryz.f3 s0 v1 s1 S402 n402 L402 e281 t202 := by rw [z402]; exact GoodM.ops (named_of namesOk) hF0 c402 g403
theorem g401 : GoodM Tryz.prog Tryz.f3 s0 v1 s1 S401 n401 L401 e281 t202 := GoodM.nav3 (n := 1) g402
theorem g400 : GoodM Tryz.prog Tryz.f3 s0 v1 s1 S400 n400 L400 e280 t202 := by rw [z400]; exact GoodM.enter (named_of namesOk) c400 g401
theorem g399 : GoodM Tryz.prog Tryz.f3 s0 v1 s1 S399 n399 L399 e279 t201 := by rw [z399]; exact GoodM.ops (named_of namesOk) hF0 c399 g400
theorem g398 : GoodM Tryz.prog Tryz.f3 s0 v1 s1 S398 n398 L398 e279 t201 := GoodM.nav3 (n := 1) g399
theorem g397 : GoodM Tryz.prog Tryz.f3 s0 v1 s1 S397 n397 L397 e278 t200 := GoodM.step hG c397 g398
theorem g396 : GoodM Tryz.prog Tryz.f3 s0 v1 s1 S396 n396 L396 e278 t200 := GoodM.nav3 (n := 1) g397
theorem g395 : GoodM Tryz.prog Tryz.f3 s0 v1 s1 S395 n395 L395 e277 t199 := GoodM.step hG c395 g396
theorem g394 : GoodM Tryz.prog Tryz.f3 s0 v1 s1 S394 n394 L394 e277 t199 := GoodM.nav3 (n := 1) g395
theorem g393 : GoodM Tryz.prog Tryz.f3 s0 v1 s1 S393 n393 L393 e276 t198 := GoodM.rounds hG x393 y393 c393 g394
theorem g392 : GoodM Tryz.prog Tryz.f3 s0 v1 s1 S392 n392 L392 e276 t198 := GoodM.nav3 (n := 1) g393
theorem g391 : GoodM Tryz.prog Tryz.f3 s0 v1 s1 S391 n391 L391 e275 t197 := GoodM.step hG c391 g392
theorem g390 : GoodM Tryz.prog Tryz.f3 s0 v1 s1 S390 n390 L390 e275 t197 := GoodM.nav3 (n := 2) g391
theorem g389 : GoodM Tryz.prog Tryz.f3 s0 v1 s1 S389 n389 L389 e274 t196 := GoodM.step hG c389 g390
theorem g388 : GoodM Tryz.prog Tryz.f3 s0 v1 s1 S388 n388 L388 e274 t196 := GoodM.nav3 (n := 2) g389
theorem g387 : GoodM Tryz.prog Tryz.f3 s0 v1 s1 S387 n387 L387 e273 t196 := GoodM.back c387 g388
theorem g386 : GoodM Tryz.prog Tryz.f3 s0 v1 s1 S386 n386 L386 e272 t195 := GoodM.step hG c386 g387
theorem g385 : GoodM Tryz.prog Tryz.f3 s0 v1 s1 S385 n385 L385 e272 t195 := GoodM.nav3 (n := 2) g386
theorem g384 : GoodM Tryz.prog Tryz.f3 s0 v1 s1 S384 n384 L384 e271 t194 := by rw [z384]; exact GoodM.ops (named_of namesOk) hF0 c384 g385
theorem g383 : GoodM Tryz.prog Tryz.f3 s0 v1 s1 S383 n383 L383 e270 t194 := GoodM.back c383 g384
theorem g382 : GoodM Tryz.prog Tryz.f3 s0 v1 s1 S382 n382 L382 e269 t193 := GoodM.step hG c382 g383
theorem g381 : GoodM Tryz.prog Tryz.f3 s0 v1 s1 S381 n381 L381 e268 t192 := GoodM.step hG c381 g382
theorem g380 : GoodM Tryz.prog Tryz.f3 s0 v1 s1 S380 n380 L380 e267 t192 := by rw [z380]; exact GoodM.enter (named_of namesOk) c380 g381
theorem g379 : GoodM Tryz.prog Tryz.f3 s0 v1 s1 S379 n379 L379 e266 t191 := by rw [z379]; exact GoodM.ops (named_of namesOk) hF0 c379 g380
theorem g378 : GoodM Tryz.prog Tryz.f3 s0 v1 s1 S378 n378 L378 e266 t191 := GoodM.nav3 (n := 1) g379
theorem g377 : GoodM Tryz.prog Tryz.f3 s0 v1 s1 S377 n377 L377 e265 t191 := by rw [z377]; exact GoodM.enter (named_of namesOk) c377 g378
theorem g376 : GoodM Tryz.prog Tryz.f3 s0 v1 s1 S376 n376 L376 e264 t190 := by rw [z376]; exact GoodM.ops (named_of namesOk) hF0 c376 g377
theorem g375 : GoodM Tryz.prog Tryz.f3 s0 v1 s1 S375 n375 L375 e264 t190 := GoodM.nav3 (n := 1) g376
theorem g374 : GoodM Tryz.prog Tryz.f3 s0 v1 s1 S374 n374 L374 e263 t189 := GoodM.step hG c374 g375
theorem g373 : GoodM Tryz.prog Tryz.f3 s0 v1 s1 S373 n373 L373 e263 t189 := GoodM.nav3 (n := 1) g374
theorem g372 : GoodM Tryz.prog Tryz.f3 s0 v1 s1 S372 n372 L372 e262 t188 := GoodM.step hG c372 g373
theorem g371 : GoodM Tryz.prog Tryz.f3 s0 v1 s1 S371 n371 L371 e262 t188 := GoodM.nav3 (n := 1) g372
theorem g370 : GoodM Tryz.prog Tryz.f3 s0 v1 s1 S370 n370 L370 e261 t187 := GoodM.rounds hG x370 y370 c370 g371
theorem g369 : GoodM Tryz.prog Tryz.f3 s0 v1 s1 S369 n369 L369 e261 t187 := GoodM.nav3 (n := 2) g370
theorem g368 : GoodM Tryz.prog Tryz.f3 s0 v1 s1 S368 n368 L368 e260 t186 := GoodM.step hG c368 g369
theorem g367 : GoodM Tryz.prog Tryz.f3 s0 v1 s1 S367 n367 L367 e259 t186 := by rw [z367]; exact GoodM.enter (named_of namesOk) c367 g368
theorem g366 : GoodM Tryz.prog Tryz.f3 s0 v1 s1 S366 n366 L366 e258 t185 := by rw [z366]; exact GoodM.ops (named_of namesOk) hF0 c366 g367
theorem g365 : GoodM Tryz.prog Tryz.f3 s0 v1 s1 S365 n365 L365 e258 t185 := GoodM.nav3 (n := 1) g366
theorem g364 : GoodM Tryz.prog Tryz.f3 s0 v1 s1 S364 n364 L364 e257 t184 := GoodM.step hG c364 g365
theorem g363 : GoodM Tryz.prog Tryz.f3 s0 v1 s1 S363 n363 L363 e256 t184 := by rw [z363]; exact GoodM.enter (named_of namesOk) c363 g364
theorem g362 : GoodM Tryz.prog Tryz.f3 s0 v1 s1 S362 n362 L362 e255 t183 := by rw [z362]; exact GoodM.ops (named_of namesOk) hF0 c362 g363
theorem g361 : GoodM Tryz.prog Tryz.f3 s0 v1 s1 S361 n361 L361 e255 t183 := GoodM.nav3 (n := 1) g362
theorem g360 : GoodM Tryz.prog Tryz.f3 s0 v1 s1 S360 n360 L360 e254 t182 := GoodM.step hG c360 g361
theorem g359 : GoodM Tryz.prog Tryz.f3 s0 v1 s1 S359 n359 L359 e254 t182 := GoodM.nav3 (n := 2) g360
theorem g358 : GoodM Tryz.prog Tryz.f3 s0 v1 s1 S358 n358 L358 e253 t181 := by rw [z358]; exact GoodM.ops (named_of namesOk) hF0 c358 g359
theorem g357 : GoodM Tryz.prog Tryz.f3 s0 v1 s1 S357 n357 L357 e252 t181 := GoodM.back c357 g358
theorem g356 : GoodM Tryz.prog Tryz.f3 s0 v1 s1 S356 n356 L356 e251 t180 := GoodM.step hG c356 g357
theorem g355 : GoodM Tryz.prog Tryz.f3 s0 v1 s1 S355 n355 L355 e251 t180 := GoodM.nav3 (n := 2) g356
theorem g354 : GoodM Tryz.prog Tryz.f3 s0 v1 s1 S354 n354 L354 e250 t179 := by rw [z354]; exact GoodM.ops (named_of namesOk) hF0 c354 g355
theorem g353 : GoodM Tryz.prog Tryz.f3 s0 v1 s1 S353 n353 L353 e249 t179 := GoodM.back c353 g354
theorem g352 : GoodM Tryz.prog Tryz.f3 s0 v1 s1 S352 n352 L352 e248 t178 := GoodM.step hG c352 g353
theorem g351 : GoodM Tryz.prog Tryz.f3 s0 v1 s1 S351 n351 L351 e247 t177 := GoodM.step hG c351 g352
theorem g350 : GoodM Tryz.prog Tryz.f3 s0 v1 s1 S350 n350 L350 e246 t176 := GoodM.step hG c350 g351
theorem g349 : GoodM Tryz.prog Tryz.f3 s0 v1 s1 S349 n349 L349 e245 t176 := by rw [z349]; exact GoodM.enter (named_of namesOk) c349 g350
theorem g348 : GoodM Tryz.prog Tryz.f3 s0 v1 s1 S348 n348 L348 e244 t175 := by rw [z348]; exact GoodM.ops (named_of namesOk) hF0 c348 g349
theorem g347 : GoodM Tryz.prog Tryz.f3 s0 v1 s1 S347 n347 L347 e244 t175 := GoodM.nav3 (n := 1) g348
theorem g346 : GoodM Tryz.prog Tryz.f3 s0 v1 s1 S346 n346 L346 e243 t174 := GoodM.step hG c346 g347
theorem g345 : GoodM Tryz.prog Tryz.f3 s0 v1 s1 S345 n345 L345 e242 t174 := by rw [z345]; exact GoodM.enter (named_of namesOk) c345 g346
theorem g344 : GoodM Tryz.prog Tryz.f3 s0 v1 s1 S344 n344 L344 e241 t173 := by rw [z344]; exact GoodM.ops (named_of namesOk) hF0 c344 g345
theorem g343 : GoodM Tryz.prog Tryz.f3 s0 v1 s1 S343 n343 L343 e241 t173 := GoodM.nav3 (n := 1) g344
theorem g342 : GoodM Tryz.prog Tryz.f3 s0 v1 s1 S342 n342 L342 e240 t172 := GoodM.step hG c342 g343
theorem g341 : GoodM Tryz.prog Tryz.f3 s0 v1 s1 S341 n341 L341 e239 t172 := by rw [z341]; exact GoodM.enter (named_of namesOk) c341 g342
theorem g340 : GoodM Tryz.prog Tryz.f3 s0 v1 s1 S340 n340 L340 e238 t171 := by rw [z340]; exact GoodM.ops (named_of namesOk) hF0 c340 g341
theorem g339 : GoodM Tryz.prog Tryz.f3 s0 v1 s1 S339 n339 L339 e238 t171 := GoodM.nav3 (n := 1) g340
theorem g338 : GoodM Tryz.prog Tryz.f3 s0 v1 s1 S338 n338 L338 e237 t170 := GoodM.step hG c338 g339
theorem g337 : GoodM Tryz.prog Tryz.f3 s0 v1 s1 S337 n337 L337 e236 t170 := by rw [z337]; exact GoodM.enter (named_of namesOk) c337 g338
theorem g336 : GoodM Tryz.prog Tryz.f3 s0 v1 s1 S336 n336 L336 e235 t169 := by rw [z336]; exact GoodM.ops (named_of namesOk) hF0 c336 g337
theorem g335 : GoodM Tryz.prog Tryz.f3 s0 v1 s1 S335 n335 L335 e235 t169 := GoodM.nav3 (n := 1) g336
theorem g334 : GoodM Tryz.prog Tryz.f3 s0 v1 s1 S334 n334 L334 e234 t168 := GoodM.step hG c334 g335
theorem g333 : GoodM Tryz.prog Tryz.f3 s0 v1 s1 S333 n333 L333 e234 t168 := GoodM.nav3 (n := 2) g334
theorem g332 : GoodM Tryz.prog Tryz.f3 s0 v1 s1 S332 n332 L332 e233 t167 := by rw [z332]; exact GoodM.ops (named_of namesOk) hF0 c332 g333
theorem g331 : GoodM Tryz.prog Tryz.f3 s0 v1 s1 S331 n331 L331 e232 t167 := GoodM.back c331 g332
theorem g330 : GoodM Tryz.prog Tryz.f3 s0 v1 s1 S330 n330 L330 e231 t166 := GoodM.step hG c330 g331
theorem g329 : GoodM Tryz.prog Tryz.f3 s0 v1 s1 S329 n329 L329 e231 t166 := GoodM.nav3 (n := 2) g330
theorem g328 : GoodM Tryz.prog Tryz.f3 s0 v1 s1 S328 n328 L328 e230 t165 := by rw [z328]; exact GoodM.ops (named_of namesOk) hF0 c328 g329
theorem g327 : GoodM Tryz.prog Tryz.f3 s0 v1 s1 S327 n327 L327 e229 t165 := GoodM.back c327 g328
theorem g326 : GoodM Tryz.prog Tryz.f3 s0 v1 s1 S326 n326 L326 e229 t165 := GoodM.nav3 (n := 2) g327
theorem g325 : GoodM Tryz.prog Tryz.f3 s0 v1 s1 S325 n325 L325 e228 t164 := by rw [z325]; exact GoodM.ops (named_of namesOk) hF0 c325 g326
theorem g324 : GoodM Tryz.prog Tryz.f3 s0 v1 s1 S324 n324 L324 e227 t164 := GoodM.back c324 g325
theorem g323 : GoodM Tryz.prog Tryz.f3 s0 v1 s1 S323 n323 L323 e226 t163 := GoodM.step hG c323 g324
theorem g322 : GoodM Tryz.prog Tryz.f3 s0 v1 s1 S322 n322 L322 e226 t163 := GoodM.nav3 (n := 2) g323
theorem g321 : GoodM Tryz.prog Tryz.f3 s0 v1 s1 S321 n321 L321 e225 t162 := by rw [z321]; exact GoodM.ops (named_of namesOk) hF0 c321 g322
theorem g320 : GoodM Tryz.prog Tryz.f3 s0 v1 s1 S320 n320 L320 e224 t162 := GoodM.back c320 g321
theorem g319 : GoodM Tryz.prog Tryz.f3 s0 v1 s1 S319 n319 L319 e223 t161 := GoodM.step hG c319 g320
theorem g318 : GoodM Tryz.prog Tryz.f3 s0 v1 s1 S318 n318 L318 e223 t161 := GoodM.nav3 (n := 2) g319
theorem g317 : GoodM Tryz.prog Tryz.f3 s0 v1 s1 S317 n317 L317 e222 t160 := by rw [z317]; exact GoodM.ops (named_of namesOk) hF0 c317 g318
theorem g316 : GoodM Tryz.prog Tryz.f3 s0 v1 s1 S316 n316 L316 e221 t160 := GoodM.back c316 g317
theorem g315 : GoodM Tryz.prog Tryz.f3 s0 v1 s1 S315 n315 L315 e220 t159 := GoodM.step hG c315 g316
theorem g314 : GoodM Tryz.prog Tryz.f3 s0 v1 s1 S314 n314 L314 e219 t158 := GoodM.step hG c314 g315
theorem g313 : GoodM Tryz.prog Tryz.f3 s0 v1 s1 S313 n313 L313 e218 t158 := by rw [z313]; exact GoodM.enter (named_of namesOk) c313 g314
theorem g312 : GoodM Tryz.prog Tryz.f3 s0 v1 s1 S312 n312 L312 e217 t157 := by rw [z312]; exact GoodM.ops (named_of namesOk) hF0 c312 g313
theorem g311 : GoodM Tryz.prog Tryz.f3 s0 v1 s1 S311 n311 L311 e217 t157 := GoodM.nav3 (n := 1) g312
theorem g310 : GoodM Tryz.prog Tryz.f3 s0 v1 s1 S310 n310 L310 e216 t156 := GoodM.step hG c310 g311
theorem g309 : GoodM Tryz.prog Tryz.f3 s0 v1 s1 S309 n309 L309 e215 t156 := by rw [z309]; exact GoodM.enter (named_of namesOk) c309 g310
theorem g308 : GoodM Tryz.prog Tryz.f3 s0 v1 s1 S308 n308 L308 e214 t155 := by rw [z308]; exact GoodM.ops (named_of namesOk) hF0 c308 g309
theorem g307 : GoodM Tryz.prog Tryz.f3 s0 v1 s1 S307 n307 L307 e214 t155 := GoodM.nav3 (n := 1) g308
theorem g306 : GoodM Tryz.prog Tryz.f3 s0 v1 s1 S306 n306 L306 e213 t154 := GoodM.step hG c306 g307
theorem g305 : GoodM Tryz.prog Tryz.f3 s0 v1 s1 S305 n305 L305 e212 t154 := by rw [z305]; exact GoodM.enter (named_of namesOk) c305 g306
theorem g304 : GoodM Tryz.prog Tryz.f3 s0 v1 s1 S304 n304 L304 e211 t153 := by rw [z304]; exact GoodM.ops (named_of namesOk) hF0 c304 g305
theorem g303 : GoodM Tryz.prog Tryz.f3 s0 v1 s1 S303 n303 L303 e211 t153 := GoodM.nav3 (n := 1) g304
theorem g302 : GoodM Tryz.prog Tryz.f3 s0 v1 s1 S302 n302 L302 e210 t152 := GoodM.step hG c302 g303
theorem g301 : GoodM Tryz.prog Tryz.f3 s0 v1 s1 S301 n301 L301 e210 t152 := GoodM.nav3 (n := 2) g302
theorem g300 : GoodM Tryz.prog Tryz.f3 s0 v1 s1 S300 n300 L300 e209 t151 := by rw [z300]; exact GoodM.ops (named_of namesOk) hF0 c300 g301
theorem g299 : GoodM Tryz.prog Tryz.f3 s0 v1 s1 S299 n299 L299 e208 t151 := GoodM.back c299 g300
theorem g298 : GoodM Tryz.prog Tryz.f3 s0 v1 s1 S298 n298 L298 e207 t150 := GoodM.step hG c298 g299
theorem g297 : GoodM Tryz.prog Tryz.f3 s0 v1 s1 S297 n297 L297 e207 t150 := GoodM.nav3 (n := 2) g298
theorem g296 : GoodM Tryz.prog Tryz.f3 s0 v1 s1 S296 n296 L296 e206 t149 := by rw [z296]; exact GoodM.ops (named_of namesOk) hF0 c296 g297
theorem g295 : GoodM Tryz.prog Tryz.f3 s0 v1 s1 S295 n295 L295 e205 t149 := GoodM.back c295 g296
theorem g294 : GoodM Tryz.prog Tryz.f3 s0 v1 s1 S294 n294 L294 e204 t148 := GoodM.step hG c294 g295
theorem g293 : GoodM Tryz.prog Tryz.f3 s0 v1 s1 S293 n293 L293 e204 t148 := GoodM.nav3 (n := 3) g294
theorem g292 : GoodM Tryz.prog Tryz.f3 s0 v1 s1 S292 n292 L292 e203 t147 := GoodM.step hG c292 g293
theorem g291 : GoodM Tryz.prog Tryz.f3 s0 v1 s1 S291 n291 L291 e203 t147 := GoodM.nav3 (n := 1) g292
theorem g290 : GoodM Tryz.prog Tryz.f3 s0 v1 s1 S290 n290 L290 e202 t146 := GoodM.rounds hG x290 y290 c290 g291
theorem g289 : GoodM Tryz.prog Tryz.f3 s0 v1 s1 S289 n289 L289 e201 t145 := GoodM.rounds hG x289 y289 c289 g290
theorem g288 : GoodM Tryz.prog Tryz.f3 s0 v1 s1 S288 n288 L288 e200 t144 := GoodM.rounds hG x288 y288 c288 g289
theorem g287 : GoodM Tryz.prog Tryz.f3 s0 v1 s1 S287 n287 L287 e200 t144 := GoodM.nav3 (n := 1) g288
theorem g286 : GoodM Tryz.prog Tryz.f3 s0 v1 s1 S286 n286 L286 e199 t143 := GoodM.step hG c286 g287
theorem g285 : GoodM Tryz.prog Tryz.f3 s0 v1 s1 S285 n285 L285 e199 t143 := GoodM.nav3 (n := 2) g286
theorem g284 : GoodM Tryz.prog Tryz.f3 s0 v1 s1 S284 n284 L284 e198 t142 := GoodM.step hG c284 g285
theorem g283 : GoodM Tryz.prog Tryz.f3 s0 v1 s1 S283 n283 L283 e198 t142 := GoodM.nav3 (n := 2) g284
theorem g282 : GoodM Tryz.prog Tryz.f3 s0 v1 s1 S282 n282 L282 e197 t142 := GoodM.back c282 g283
theorem g281 : GoodM Tryz.prog Tryz.f3 s0 v1 s1 S281 n281 L281 e196 t141 := GoodM.step hG c281 g282
theorem g280 : GoodM Tryz.prog Tryz.f3 s0 v1 s1 S280 n280 L280 e196 t141 := GoodM.nav3 (n := 2) g281
theorem g279 : GoodM Tryz.prog Tryz.f3 s0 v1 s1 S279 n279 L279 e195 t140 := by rw [z279]; exact GoodM.ops (named_of namesOk) hF0 c279 g280
theorem g278 : GoodM Tryz.prog Tryz.f3 s0 v1 s1 S278 n278 L278 e194 t140 := GoodM.back c278 g279
theorem g277 : GoodM Tryz.prog Tryz.f3 s0 v1 s1 S277 n277 L277 e193 t139 := GoodM.step hG c277 g278
theorem g276 : GoodM Tryz.prog Tryz.f3 s0 v1 s1 S276 n276 L276 e192 t138 := GoodM.step hG c276 g277
theorem g275 : GoodM Tryz.prog Tryz.f3 s0 v1 s1 S275 n275 L275 e191 t138 := by rw [z275]; exact GoodM.enter (named_of namesOk) c275 g276
theorem g274 : GoodM Tryz.prog Tryz.f3 s0 v1 s1 S274 n274 L274 e190 t137 := by rw [z274]; exact GoodM.ops (named_of namesOk) hF0 c274 g275
theorem g273 : GoodM Tryz.prog Tryz.f3 s0 v1 s1 S273 n273 L273 e190 t137 := GoodM.nav3 (n := 1) g274
theorem g272 : GoodM Tryz.prog Tryz.f3 s0 v1 s1 S272 n272 L272 e189 t137 := by rw [z272]; exact GoodM.enter (named_of namesOk) c272 g273
theorem g271 : GoodM Tryz.prog Tryz.f3 s0 v1 s1 S271 n271 L271 e188 t136 := by rw [z271]; exact GoodM.ops (named_of namesOk) hF0 c271 g272
theorem g270 : GoodM Tryz.prog Tryz.f3 s0 v1 s1 S270 n270 L270 e188 t136 := GoodM.nav3 (n := 1) g271
theorem g269 : GoodM Tryz.prog Tryz.f3 s0 v1 s1 S269 n269 L269 e187 t135 := GoodM.step hG c269 g270
theorem g268 : GoodM Tryz.prog Tryz.f3 s0 v1 s1 S268 n268 L268 e187 t135 := GoodM.nav3 (n := 1) g269
theorem g267 : GoodM Tryz.prog Tryz.f3 s0 v1 s1 S267 n267 L267 e186 t134 := GoodM.step hG c267 g268
theorem g266 : GoodM Tryz.prog Tryz.f3 s0 v1 s1 S266 n266 L266 e186 t134 := GoodM.nav3 (n := 1) g267
theorem g265 : GoodM Tryz.prog Tryz.f3 s0 v1 s1 S265 n265 L265 e185 t133 := GoodM.rounds hG x265 y265 c265 g266
theorem g264 : GoodM Tryz.prog Tryz.f3 s0 v1 s1 S264 n264 L264 e185 t133 := GoodM.nav3 (n := 1) g265
theorem g263 : GoodM Tryz.prog Tryz.f3 s0 v1 s1 S263 n263 L263 e184 t132 := GoodM.step hG c263 g264
theorem g262 : GoodM Tryz.prog Tryz.f3 s0 v1 s1 S262 n262 L262 e184 t132 := GoodM.nav3 (n := 2) g263
theorem g261 : GoodM Tryz.prog Tryz.f3 s0 v1 s1 S261 n261 L261 e183 t131 := GoodM.step hG c261 g262
theorem g260 : GoodM Tryz.prog Tryz.f3 s0 v1 s1 S260 n260 L260 e183 t131 := GoodM.nav3 (n := 2) g261
theorem g259 : GoodM Tryz.prog Tryz.f3 s0 v1 s1 S259 n259 L259 e182 t131 := GoodM.back c259 g260
theorem g258 : GoodM Tryz.prog Tryz.f3 s0 v1 s1 S258 n258 L258 e181 t130 := GoodM.step hG c258 g259
theorem g257 : GoodM Tryz.prog Tryz.f3 s0 v1 s1 S257 n257 L257 e181 t130 := GoodM.nav3 (n := 2) g258
theorem g256 : GoodM Tryz.prog Tryz.f3 s0 v1 s1 S256 n256 L256 e180 t129 := by rw [z256]; exact GoodM.ops (named_of namesOk) hF0 c256 g257
theorem g255 : GoodM Tryz.prog Tryz.f3 s0 v1 s1 S255 n255 L255 e179 t129 := GoodM.back c255 g256
theorem g254 : GoodM Tryz.prog Tryz.f3 s0 v1 s1 S254 n254 L254 e178 t128 := GoodM.step hG c254 g255
theorem g253 : GoodM Tryz.prog Tryz.f3 s0 v1 s1 S253 n253 L253 e177 t127 := GoodM.step hG c253 g254
theorem g252 : GoodM Tryz.prog Tryz.f3 s0 v1 s1 S252 n252 L252 e176 t127 := by rw [z252]; exact GoodM.enter (named_of namesOk) c252 g253
theorem g251 : GoodM Tryz.prog Tryz.f3 s0 v1 s1 S251 n251 L251 e175 t126 := by rw [z251]; exact GoodM.ops (named_of namesOk) hF0 c251 g252
theorem g250 : GoodM Tryz.prog Tryz.f3 s0 v1 s1 S250 n250 L250 e175 t126 := GoodM.nav3 (n := 1) g251
theorem g249 : GoodM Tryz.prog Tryz.f3 s0 v1 s1 S249 n249 L249 e174 t126 := by rw [z249]; exact GoodM.enter (named_of namesOk) c249 g250
theorem g248 : GoodM Tryz.prog Tryz.f3 s0 v1 s1 S248 n248 L248 e173 t125 := by rw [z248]; exact GoodM.ops (named_of namesOk) hF0 c248 g249
theorem g247 : GoodM Tryz.prog Tryz.f3 s0 v1 s1 S247 n247 L247 e173 t125 := GoodM.nav3 (n := 1) g248
theorem g246 : GoodM Tryz.prog Tryz.f3 s0 v1 s1 S246 n246 L246 e172 t124 := GoodM.step hG c246 g247
theorem g245 : GoodM Tryz.prog Tryz.f3 s0 v1 s1 S245 n245 L245 e172 t124 := GoodM.nav3 (n := 1) g246
theorem g244 : GoodM Tryz.prog Tryz.f3 s0 v1 s1 S244 n244 L244 e171 t123 := GoodM.step hG c244 g245
theorem g243 : GoodM Tryz.prog Tryz.f3 s0 v1 s1 S243 n243 L243 e171 t123 := GoodM.nav3 (n := 1) g244
theorem g242 : GoodM Tryz.prog Tryz.f3 s0 v1 s1 S242 n242 L242 e170 t122 := GoodM.rounds hG x242 y242 c242 g243
theorem g241 : GoodM Tryz.prog Tryz.f3 s0 v1 s1 S241 n241 L241 e170 t122 := GoodM.nav3 (n := 2) g242
theorem g240 : GoodM Tryz.prog Tryz.f3 s0 v1 s1 S240 n240 L240 e169 t121 := GoodM.step hG c240 g241
theorem g239 : GoodM Tryz.prog Tryz.f3 s0 v1 s1 S239 n239 L239 e168 t121 := by rw [z239]; exact GoodM.enter (named_of namesOk) c239 g240
theorem g238 : GoodM Tryz.prog Tryz.f3 s0 v1 s1 S238 n238 L238 e167 t120 := by rw [z238]; exact GoodM.ops (named_of namesOk) hF0 c238 g239
theorem g237 : GoodM Tryz.prog Tryz.f3 s0 v1 s1 S237 n237 L237 e167 t120 := GoodM.nav3 (n := 1) g238
theorem g236 : GoodM Tryz.prog Tryz.f3 s0 v1 s1 S236 n236 L236 e166 t119 := GoodM.step hG c236 g237
theorem g235 : GoodM Tryz.prog Tryz.f3 s0 v1 s1 S235 n235 L235 e165 t119 := by rw [z235]; exact GoodM.enter (named_of namesOk) c235 g236
theorem g234 : GoodM Tryz.prog Tryz.f3 s0 v1 s1 S234 n234 L234 e164 t118 := by rw [z234]; exact GoodM.ops (named_of namesOk) hF0 c234 g235
theorem g233 : GoodM Tryz.prog Tryz.f3 s0 v1 s1 S233 n233 L233 e164 t118 := GoodM.nav3 (n := 1) g234
theorem g232 : GoodM Tryz.prog Tryz.f3 s0 v1 s1 S232 n232 L232 e163 t117 := GoodM.step hG c232 g233
theorem g231 : GoodM Tryz.prog Tryz.f3 s0 v1 s1 S231 n231 L231 e162 t117 := by rw [z231]; exact GoodM.enter (named_of namesOk) c231 g232
theorem g230 : GoodM Tryz.prog Tryz.f3 s0 v1 s1 S230 n230 L230 e161 t116 := by rw [z230]; exact GoodM.ops (named_of namesOk) hF0 c230 g231
theorem g229 : GoodM Tryz.prog Tryz.f3 s0 v1 s1 S229 n229 L229 e161 t116 := GoodM.nav3 (n := 1) g230
theorem g228 : GoodM Tryz.prog Tryz.f3 s0 v1 s1 S228 n228 L228 e160 t115 := GoodM.step hG c228 g229
theorem g227 : GoodM Tryz.prog Tryz.f3 s0 v1 s1 S227 n227 L227 e160 t115 := GoodM.nav3 (n := 2) g228
theorem g226 : GoodM Tryz.prog Tryz.f3 s0 v1 s1 S226 n226 L226 e159 t114 := by rw [z226]; exact GoodM.ops (named_of namesOk) hF0 c226 g227
theorem g225 : GoodM Tryz.prog Tryz.f3 s0 v1 s1 S225 n225 L225 e158 t114 := GoodM.back c225 g226
theorem g224 : GoodM Tryz.prog Tryz.f3 s0 v1 s1 S224 n224 L224 e158 t114 := GoodM.nav3 (n := 2) g225
theorem g223 : GoodM Tryz.prog Tryz.f3 s0 v1 s1 S223 n223 L223 e157 t113 := by rw [z223]; exact GoodM.ops (named_of namesOk) hF0 c223 g224
theorem g222 : GoodM Tryz.prog Tryz.f3 s0 v1 s1 S222 n222 L222 e156 t113 := GoodM.back c222 g223
theorem g221 : GoodM Tryz.prog Tryz.f3 s0 v1 s1 S221 n221 L221 e155 t112 := GoodM.step hG c221 g222
theorem g220 : GoodM Tryz.prog Tryz.f3 s0 v1 s1 S220 n220 L220 e154 t111 := GoodM.step hG c220 g221
theorem g219 : GoodM Tryz.prog Tryz.f3 s0 v1 s1 S219 n219 L219 e153 t110 := GoodM.step hG c219 g220
theorem g218 : GoodM Tryz.prog Tryz.f3 s0 v1 s1 S218 n218 L218 e152 t110 := by rw [z218]; exact GoodM.enter (named_of namesOk) c218 g219
theorem g217 : GoodM Tryz.prog Tryz.f3 s0 v1 s1 S217 n217 L217 e151 t109 := by rw [z217]; exact GoodM.ops (named_of namesOk) hF0 c217 g218
theorem g216 : GoodM Tryz.prog Tryz.f3 s0 v1 s1 S216 n216 L216 e151 t109 := GoodM.nav3 (n := 1) g217
theorem g215 : GoodM Tryz.prog Tryz.f3 s0 v1 s1 S215 n215 L215 e150 t108 := GoodM.step hG c215 g216
theorem g214 : GoodM Tryz.prog Tryz.f3 s0 v1 s1 S214 n214 L214 e149 t108 := by rw [z214]; exact GoodM.enter (named_of namesOk) c214 g215
theorem g213 : GoodM Tryz.prog Tryz.f3 s0 v1 s1 S213 n213 L213 e148 t107 := by rw [z213]; exact GoodM.ops (named_of namesOk) hF0 c213 g214
theorem g212 : GoodM Tryz.prog Tryz.f3 s0 v1 s1 S212 n212 L212 e148 t107 := GoodM.nav3 (n := 1) g213
theorem g211 : GoodM Tryz.prog Tryz.f3 s0 v1 s1 S211 n211 L211 e147 t106 := GoodM.step hG c211 g212
theorem g210 : GoodM Tryz.prog Tryz.f3 s0 v1 s1 S210 n210 L210 e147 t106 := GoodM.nav3 (n := 2) g211
theorem g209 : GoodM Tryz.prog Tryz.f3 s0 v1 s1 S209 n209 L209 e146 t105 := by rw [z209]; exact GoodM.ops (named_of namesOk) hF0 c209 g210
theorem g208 : GoodM Tryz.prog Tryz.f3 s0 v1 s1 S208 n208 L208 e145 t105 := GoodM.back c208 g209
theorem g207 : GoodM Tryz.prog Tryz.f3 s0 v1 s1 S207 n207 L207 e145 t105 := GoodM.nav3 (n := 2) g208
theorem g206 : GoodM Tryz.prog Tryz.f3 s0 v1 s1 S206 n206 L206 e144 t104 := by rw [z206]; exact GoodM.ops (named_of namesOk) hF0 c206 g207
theorem g205 : GoodM Tryz.prog Tryz.f3 s0 v1 s1 S205 n205 L205 e143 t104 := GoodM.back c205 g206
theorem g204 : GoodM Tryz.prog Tryz.f3 s0 v1 s1 S204 n204 L204 e142 t103 := GoodM.step hG c204 g205
theorem g203 : GoodM Tryz.prog Tryz.f3 s0 v1 s1 S203 n203 L203 e142 t103 := GoodM.nav3 (n := 2) g204
theorem g202 : GoodM Tryz.prog Tryz.f3 s0 v1 s1 S202 n202 L202 e141 t102 := by rw [z202]; exact GoodM.ops (named_of namesOk) hF0 c202 g203
theorem g201 : GoodM Tryz.prog Tryz.f3 s0 v1 s1 S201 n201 L201 e140 t102 := GoodM.back c201 g202
theorem g200 : GoodM Tryz.prog Tryz.f3 s0 v1 s1 S200 n200 L200 e139 t101 := GoodM.step hG c200 g201
theorem g199 : GoodM Tryz.prog Tryz.f3 s0 v1 s1 S199 n199 L199 e139 t101 := GoodM.nav3 (n := 3) g200
theorem g198 : GoodM Tryz.prog Tryz.f3 s0 v1 s1 S198 n198 L198 e138 t100 := GoodM.step hG c198 g199
theorem g197 : GoodM Tryz.prog Tryz.f3 s0 v1 s1 S197 n197 L197 e138 t100 := GoodM.nav3 (n := 1) g198
theorem g196 : GoodM Tryz.prog Tryz.f3 s0 v1 s1 S196 n196 L196 e137 t99 := GoodM.rounds hG x196 y196 c196 g197
theorem g195 : GoodM Tryz.prog Tryz.f3 s0 v1 s1 S195 n195 L195 e136 t98 := GoodM.rounds hG x195 y195 c195 g196
theorem g194 : GoodM Tryz.prog Tryz.f3 s0 v1 s1 S194 n194 L194 e135 t97 := GoodM.rounds hG x194 y194 c194 g195
theorem g193 : GoodM Tryz.prog Tryz.f3 s0 v1 s1 S193 n193 L193 e135 t97 := GoodM.nav3 (n := 1) g194
theorem g192 : GoodM Tryz.prog Tryz.f3 s0 v1 s1 S192 n192 L192 e134 t96 := GoodM.step hG c192 g193
theorem g191 : GoodM Tryz.prog Tryz.f3 s0 v1 s1 S191 n191 L191 e134 t96 := GoodM.nav3 (n := 2) g192
theorem g190 : GoodM Tryz.prog Tryz.f3 s0 v1 s1 S190 n190 L190 e133 t95 := GoodM.step hG c190 g191
theorem g189 : GoodM Tryz.prog Tryz.f3 s0 v1 s1 S189 n189 L189 e133 t95 := GoodM.nav3 (n := 2) g190
theorem g188 : GoodM Tryz.prog Tryz.f3 s0 v1 s1 S188 n188 L188 e132 t95 := GoodM.back c188 g189
theorem g187 : GoodM Tryz.prog Tryz.f3 s0 v1 s1 S187 n187 L187 e131 t94 := GoodM.step hG c187 g188
theorem g186 : GoodM Tryz.prog Tryz.f3 s0 v1 s1 S186 n186 L186 e131 t94 := GoodM.nav3 (n := 2) g187
theorem g185 : GoodM Tryz.prog Tryz.f3 s0 v1 s1 S185 n185 L185 e130 t93 := by rw [z185]; exact GoodM.ops (named_of namesOk) hF0 c185 g186
theorem g184 : GoodM Tryz.prog Tryz.f3 s0 v1 s1 S184 n184 L184 e129 t93 := GoodM.back c184 g185
theorem g183 : GoodM Tryz.prog Tryz.f3 s0 v1 s1 S183 n183 L183 e128 t92 := GoodM.step hG c183 g184
theorem g182 : GoodM Tryz.prog Tryz.f3 s0 v1 s1 S182 n182 L182 e127 t91 := GoodM.step hG c182 g183
theorem g181 : GoodM Tryz.prog Tryz.f3 s0 v1 s1 S181 n181 L181 e126 t91 := by rw [z181]; exact GoodM.enter (named_of namesOk) c181 g182
theorem g180 : GoodM Tryz.prog Tryz.f3 s0 v1 s1 S180 n180 L180 e125 t90 := by rw [z180]; exact GoodM.ops (named_of namesOk) hF0 c180 g181
theorem g179 : GoodM Tryz.prog Tryz.f3 s0 v1 s1 S179 n179 L179 e125 t90 := GoodM.nav3 (n := 1) g180
theorem g178 : GoodM Tryz.prog Tryz.f3 s0 v1 s1 S178 n178 L178 e124 t90 := by rw [z178]; exact GoodM.enter (named_of namesOk) c178 g179
theorem g177 : GoodM Tryz.prog Tryz.f3 s0 v1 s1 S177 n177 L177 e123 t89 := by rw [z177]; exact GoodM.ops (named_of namesOk) hF0 c177 g178
theorem g176 : GoodM Tryz.prog Tryz.f3 s0 v1 s1 S176 n176 L176 e123 t89 := GoodM.nav3 (n := 1) g177
theorem g175 : GoodM Tryz.prog Tryz.f3 s0 v1 s1 S175 n175 L175 e122 t88 := GoodM.step hG c175 g176
theorem g174 : GoodM Tryz.prog Tryz.f3 s0 v1 s1 S174 n174 L174 e122 t88 := GoodM.nav3 (n := 1) g175
theorem g173 : GoodM Tryz.prog Tryz.f3 s0 v1 s1 S173 n173 L173 e121 t87 := GoodM.step hG c173 g174
theorem g172 : GoodM Tryz.prog Tryz.f3 s0 v1 s1 S172 n172 L172 e121 t87 := GoodM.nav3 (n := 1) g173
theorem g171 : GoodM Tryz.prog Tryz.f3 s0 v1 s1 S171 n171 L171 e120 t86 := GoodM.rounds hG x171 y171 c171 g172
theorem g170 : GoodM Tryz.prog Tryz.f3 s0 v1 s1 S170 n170 L170 e120 t86 := GoodM.nav3 (n := 1) g171
theorem g169 : GoodM Tryz.prog Tryz.f3 s0 v1 s1 S169 n169 L169 e119 t85 := GoodM.step hG c169 g170
theorem g168 : GoodM Tryz.prog Tryz.f3 s0 v1 s1 S168 n168 L168 e119 t85 := GoodM.nav3 (n := 2) g169
theorem g167 : GoodM Tryz.prog Tryz.f3 s0 v1 s1 S167 n167 L167 e118 t84 := GoodM.step hG c167 g168
theorem g166 : GoodM Tryz.prog Tryz.f3 s0 v1 s1 S166 n166 L166 e118 t84 := GoodM.nav3 (n := 2) g167
theorem g165 : GoodM Tryz.prog Tryz.f3 s0 v1 s1 S165 n165 L165 e117 t84 := GoodM.back c165 g166
theorem g164 : GoodM Tryz.prog Tryz.f3 s0 v1 s1 S164 n164 L164 e116 t83 := GoodM.step hG c164 g165
theorem g163 : GoodM Tryz.prog Tryz.f3 s0 v1 s1 S163 n163 L163 e116 t83 := GoodM.nav3 (n := 2) g164
theorem g162 : GoodM Tryz.prog Tryz.f3 s0 v1 s1 S162 n162 L162 e115 t82 := by rw [z162]; exact GoodM.ops (named_of namesOk) hF0 c162 g163
theorem g161 : GoodM Tryz.prog Tryz.f3 s0 v1 s1 S161 n161 L161 e114 t82 := GoodM.back c161 g162
theorem g160 : GoodM Tryz.prog Tryz.f3 s0 v1 s1 S160 n160 L160 e113 t81 := GoodM.step hG c160 g161
theorem g159 : GoodM Tryz.prog Tryz.f3 s0 v1 s1 S159 n159 L159 e112 t80 := GoodM.step hG c159 g160
theorem g158 : GoodM Tryz.prog Tryz.f3 s0 v1 s1 S158 n158 L158 e111 t80 := by rw [z158]; exact GoodM.enter (named_of namesOk) c158 g159
theorem g157 : GoodM Tryz.prog Tryz.f3 s0 v1 s1 S157 n157 L157 e110 t79 := by rw [z157]; exact GoodM.ops (named_of namesOk) hF0 c157 g158
theorem g156 : GoodM Tryz.prog Tryz.f3 s0 v1 s1 S156 n156 L156 e110 t79 := GoodM.nav3 (n := 1) g157
theorem g155 : GoodM Tryz.prog Tryz.f3 s0 v1 s1 S155 n155 L155 e109 t79 := by rw [z155]; exact GoodM.enter (named_of namesOk) c155 g156
theorem g154 : GoodM Tryz.prog Tryz.f3 s0 v1 s1 S154 n154 L154 e108 t78 := by rw [z154]; exact GoodM.ops (named_of namesOk) hF0 c154 g155
theorem g153 : GoodM Tryz.prog Tryz.f3 s0 v1 s1 S153 n153 L153 e108 t78 := GoodM.nav3 (n := 1) g154
theorem g152 : GoodM Tryz.prog Tryz.f3 s0 v1 s1 S152 n152 L152 e107 t77 := GoodM.step hG c152 g153
theorem g151 : GoodM Tryz.prog Tryz.f3 s0 v1 s1 S151 n151 L151 e107 t77 := GoodM.nav3 (n := 1) g152
theorem g150 : GoodM Tryz.prog Tryz.f3 s0 v1 s1 S150 n150 L150 e106 t76 := GoodM.step hG c150 g151
theorem g149 : GoodM Tryz.prog Tryz.f3 s0 v1 s1 S149 n149 L149 e106 t76 := GoodM.nav3 (n := 1) g150
theorem g148 : GoodM Tryz.prog Tryz.f3 s0 v1 s1 S148 n148 L148 e105 t75 := GoodM.rounds hG x148 y148 c148 g149
theorem g147 : GoodM Tryz.prog Tryz.f3 s0 v1 s1 S147 n147 L147 e105 t75 := GoodM.nav3 (n := 2) g148
theorem g146 : GoodM Tryz.prog Tryz.f3 s0 v1 s1 S146 n146 L146 e104 t74 := GoodM.step hG c146 g147
theorem g145 : GoodM Tryz.prog Tryz.f3 s0 v1 s1 S145 n145 L145 e103 t74 := by rw [z145]; exact GoodM.enter (named_of namesOk) c145 g146
theorem g144 : GoodM Tryz.prog Tryz.f3 s0 v1 s1 S144 n144 L144 e102 t73 := by rw [z144]; exact GoodM.ops (named_of namesOk) hF0 c144 g145
theorem g143 : GoodM Tryz.prog Tryz.f3 s0 v1 s1 S143 n143 L143 e102 t73 := GoodM.nav3 (n := 1) g144
theorem g142 : GoodM Tryz.prog Tryz.f3 s0 v1 s1 S142 n142 L142 e101 t72 := GoodM.step hG c142 g143
theorem g141 : GoodM Tryz.prog Tryz.f3 s0 v1 s1 S141 n141 L141 e100 t72 := by rw [z141]; exact GoodM.enter (named_of namesOk) c141 g142
theorem g140 : GoodM Tryz.prog Tryz.f3 s0 v1 s1 S140 n140 L140 e99 t71 := by rw [z140]; exact GoodM.ops (named_of namesOk) hF0 c140 g141
theorem g139 : GoodM Tryz.prog Tryz.f3 s0 v1 s1 S139 n139 L139 e99 t71 := GoodM.nav3 (n := 1) g140
theorem g138 : GoodM Tryz.prog Tryz.f3 s0 v1 s1 S138 n138 L138 e98 t70 := GoodM.step hG c138 g139
theorem g137 : GoodM Tryz.prog Tryz.f3 s0 v1 s1 S137 n137 L137 e98 t70 := GoodM.nav3 (n := 2) g138
theorem g136 : GoodM Tryz.prog Tryz.f3 s0 v1 s1 S136 n136 L136 e97 t69 := by rw [z136]; exact GoodM.ops (named_of namesOk) hF0 c136 g137
theorem g135 : GoodM Tryz.prog Tryz.f3 s0 v1 s1 S135 n135 L135 e96 t69 := GoodM.back c135 g136
theorem g134 : GoodM Tryz.prog Tryz.f3 s0 v1 s1 S134 n134 L134 e95 t68 := GoodM.step hG c134 g135
theorem g133 : GoodM Tryz.prog Tryz.f3 s0 v1 s1 S133 n133 L133 e95 t68 := GoodM.nav3 (n := 2) g134
theorem g132 : GoodM Tryz.prog Tryz.f3 s0 v1 s1 S132 n132 L132 e94 t67 := by rw [z132]; exact GoodM.ops (named_of namesOk) hF0 c132 g133
theorem g131 : GoodM Tryz.prog Tryz.f3 s0 v1 s1 S131 n131 L131 e93 t67 := GoodM.back c131 g132
theorem g130 : GoodM Tryz.prog Tryz.f3 s0 v1 s1 S130 n130 L130 e92 t66 := GoodM.step hG c130 g131
theorem g129 : GoodM Tryz.prog Tryz.f3 s0 v1 s1 S129 n129 L129 e91 t65 := GoodM.step hG c129 g130
theorem g128 : GoodM Tryz.prog Tryz.f3 s0 v1 s1 S128 n128 L128 e90 t64 := GoodM.step hG c128 g129
theorem g127 : GoodM Tryz.prog Tryz.f3 s0 v1 s1 S127 n127 L127 e89 t64 := by rw [z127]; exact GoodM.enter (named_of namesOk) c127 g128
theorem g126 : GoodM Tryz.prog Tryz.f3 s0 v1 s1 S126 n126 L126 e88 t63 := by rw [z126]; exact GoodM.ops (named_of namesOk) hF0 c126 g127
theorem g125 : GoodM Tryz.prog Tryz.f3 s0 v1 s1 S125 n125 L125 e88 t63 := GoodM.nav3 (n := 1) g126
theorem g124 : GoodM Tryz.prog Tryz.f3 s0 v1 s1 S124 n124 L124 e87 t62 := GoodM.step hG c124 g125
theorem g123 : GoodM Tryz.prog Tryz.f3 s0 v1 s1 S123 n123 L123 e86 t62 := by rw [z123]; exact GoodM.enter (named_of namesOk) c123 g124
theorem g122 : GoodM Tryz.prog Tryz.f3 s0 v1 s1 S122 n122 L122 e85 t61 := by rw [z122]; exact GoodM.ops (named_of namesOk) hF0 c122 g123
theorem g121 : GoodM Tryz.prog Tryz.f3 s0 v1 s1 S121 n121 L121 e85 t61 := GoodM.nav3 (n := 1) g122
theorem g120 : GoodM Tryz.prog Tryz.f3 s0 v1 s1 S120 n120 L120 e84 t60 := GoodM.step hG c120 g121
theorem g119 : GoodM Tryz.prog Tryz.f3 s0 v1 s1 S119 n119 L119 e83 t60 := by rw [z119]; exact GoodM.enter (named_of namesOk) c119 g120
theorem g118 : GoodM Tryz.prog Tryz.f3 s0 v1 s1 S118 n118 L118 e82 t59 := by rw [z118]; exact GoodM.ops (named_of namesOk) hF0 c118 g119
theorem g117 : GoodM Tryz.prog Tryz.f3 s0 v1 s1 S117 n117 L117 e82 t59 := GoodM.nav3 (n := 1) g118
theorem g116 : GoodM Tryz.prog Tryz.f3 s0 v1 s1 S116 n116 L116 e81 t58 := GoodM.step hG c116 g117
theorem g115 : GoodM Tryz.prog Tryz.f3 s0 v1 s1 S115 n115 L115 e80 t58 := by rw [z115]; exact GoodM.enter (named_of namesOk) c115 g116
theorem g114 : GoodM Tryz.prog Tryz.f3 s0 v1 s1 S114 n114 L114 e79 t57 := by rw [z114]; exact GoodM.ops (named_of namesOk) hF0 c114 g115
theorem g113 : GoodM Tryz.prog Tryz.f3 s0 v1 s1 S113 n113 L113 e79 t57 := GoodM.nav3 (n := 1) g114
theorem g112 : GoodM Tryz.prog Tryz.f3 s0 v1 s1 S112 n112 L112 e78 t56 := GoodM.step hG c112 g113
theorem g111 : GoodM Tryz.prog Tryz.f3 s0 v1 s1 S111 n111 L111 e78 t56 := GoodM.nav3 (n := 2) g112
theorem g110 : GoodM Tryz.prog Tryz.f3 s0 v1 s1 S110 n110 L110 e77 t55 := by rw [z110]; exact GoodM.ops (named_of namesOk) hF0 c110 g111
theorem g109 : GoodM Tryz.prog Tryz.f3 s0 v1 s1 S109 n109 L109 e76 t55 := GoodM.back c109 g110
theorem g108 : GoodM Tryz.prog Tryz.f3 s0 v1 s1 S108 n108 L108 e75 t54 := GoodM.step hG c108 g109
theorem g107 : GoodM Tryz.prog Tryz.f3 s0 v1 s1 S107 n107 L107 e75 t54 := GoodM.nav3 (n := 2) g108
theorem g106 : GoodM Tryz.prog Tryz.f3 s0 v1 s1 S106 n106 L106 e74 t53 := by rw [z106]; exact GoodM.ops (named_of namesOk) hF0 c106 g107
theorem g105 : GoodM Tryz.prog Tryz.f3 s0 v1 s1 S105 n105 L105 e73 t53 := GoodM.back c105 g106
theorem g104 : GoodM Tryz.prog Tryz.f3 s0 v1 s1 S104 n104 L104 e72 t52 := GoodM.step hG c104 g105
theorem g103 : GoodM Tryz.prog Tryz.f3 s0 v1 s1 S103 n103 L103 e72 t52 := GoodM.nav3 (n := 1) g104
theorem g102 : GoodM Tryz.prog Tryz.f3 s0 v1 s1 S102 n102 L102 e71 t51 := GoodM.step hG c102 g103
theorem g101 : GoodM Tryz.prog Tryz.f3 s0 v1 s1 S101 n101 L101 e71 t51 := GoodM.nav3 (n := 2) g102
theorem g100 : GoodM Tryz.prog Tryz.f3 s0 v1 s1 S100 n100 L100 e70 t50 := by rw [z100]; exact GoodM.ops (named_of namesOk) hF0 c100 g101
theorem g99 : GoodM Tryz.prog Tryz.f3 s0 v1 s1 S99 n99 L99 e69 t50 := GoodM.back c99 g100
theorem g98 : GoodM Tryz.prog Tryz.f3 s0 v1 s1 S98 n98 L98 e69 t50 := GoodM.nav3 (n := 2) g99
theorem g97 : GoodM Tryz.prog Tryz.f3 s0 v1 s1 S97 n97 L97 e68 t49 := by rw [z97]; exact GoodM.ops (named_of namesOk) hF0 c97 g98
theorem g96 : GoodM Tryz.prog Tryz.f3 s0 v1 s1 S96 n96 L96 e67 t49 := GoodM.back c96 g97
theorem g95 : GoodM Tryz.prog Tryz.f3 s0 v1 s1 S95 n95 L95 e66 t48 := GoodM.step hG c95 g96
theorem g94 : GoodM Tryz.prog Tryz.f3 s0 v1 s1 S94 n94 L94 e66 t48 := GoodM.nav3 (n := 2) g95
theorem g93 : GoodM Tryz.prog Tryz.f3 s0 v1 s1 S93 n93 L93 e65 t47 := by rw [z93]; exact GoodM.ops (named_of namesOk) hF0 c93 g94
theorem g92 : GoodM Tryz.prog Tryz.f3 s0 v1 s1 S92 n92 L92 e64 t47 := GoodM.back c92 g93
theorem g91 : GoodM Tryz.prog Tryz.f3 s0 v1 s1 S91 n91 L91 e63 t46 := GoodM.step hG c91 g92
theorem g90 : GoodM Tryz.prog Tryz.f3 s0 v1 s1 S90 n90 L90 e63 t46 := GoodM.nav3 (n := 3) g91
theorem g89 : GoodM Tryz.prog Tryz.f3 s0 v1 s1 S89 n89 L89 e62 t45 := GoodM.step hG c89 g90
theorem g88 : GoodM Tryz.prog Tryz.f3 s0 v1 s1 S88 n88 L88 e62 t45 := GoodM.nav3 (n := 1) g89
theorem g87 : GoodM Tryz.prog Tryz.f3 s0 v1 s1 S87 n87 L87 e61 t44 := GoodM.rounds hG x87 y87 c87 g88
theorem g86 : GoodM Tryz.prog Tryz.f3 s0 v1 s1 S86 n86 L86 e60 t43 := GoodM.rounds hG x86 y86 c86 g87
theorem g85 : GoodM Tryz.prog Tryz.f3 s0 v1 s1 S85 n85 L85 e59 t42 := GoodM.rounds hG x85 y85 c85 g86
theorem g84 : GoodM Tryz.prog Tryz.f3 s0 v1 s1 S84 n84 L84 e59 t42 := GoodM.nav3 (n := 1) g85
theorem g83 : GoodM Tryz.prog Tryz.f3 s0 v1 s1 S83 n83 L83 e58 t41 := GoodM.step hG c83 g84
theorem g82 : GoodM Tryz.prog Tryz.f3 s0 v1 s1 S82 n82 L82 e58 t41 := GoodM.nav3 (n := 2) g83
theorem g81 : GoodM Tryz.prog Tryz.f3 s0 v1 s1 S81 n81 L81 e57 t40 := GoodM.step hG c81 g82
theorem g80 : GoodM Tryz.prog Tryz.f3 s0 v1 s1 S80 n80 L80 e57 t40 := GoodM.nav3 (n := 2) g81
theorem g79 : GoodM Tryz.prog Tryz.f3 s0 v1 s1 S79 n79 L79 e56 t40 := GoodM.back c79 g80
theorem g78 : GoodM Tryz.prog Tryz.f3 s0 v1 s1 S78 n78 L78 e55 t39 := GoodM.step hG c78 g79
theorem g77 : GoodM Tryz.prog Tryz.f3 s0 v1 s1 S77 n77 L77 e55 t39 := GoodM.nav3 (n := 2) g78
theorem g76 : GoodM Tryz.prog Tryz.f3 s0 v1 s1 S76 n76 L76 e54 t38 := by rw [z76]; exact GoodM.ops (named_of namesOk) hF0 c76 g77
theorem g75 : GoodM Tryz.prog Tryz.f3 s0 v1 s1 S75 n75 L75 e53 t38 := GoodM.back c75 g76
theorem g74 : GoodM Tryz.prog Tryz.f3 s0 v1 s1 S74 n74 L74 e52 t37 := GoodM.step hG c74 g75
theorem g73 : GoodM Tryz.prog Tryz.f3 s0 v1 s1 S73 n73 L73 e51 t36 := GoodM.step hG c73 g74
theorem g72 : GoodM Tryz.prog Tryz.f3 s0 v1 s1 S72 n72 L72 e50 t36 := by rw [z72]; exact GoodM.enter (named_of namesOk) c72 g73
theorem g71 : GoodM Tryz.prog Tryz.f3 s0 v1 s1 S71 n71 L71 e49 t35 := by rw [z71]; exact GoodM.ops (named_of namesOk) hF0 c71 g72
theorem g70 : GoodM Tryz.prog Tryz.f3 s0 v1 s1 S70 n70 L70 e49 t35 := GoodM.nav3 (n := 1) g71
theorem g69 : GoodM Tryz.prog Tryz.f3 s0 v1 s1 S69 n69 L69 e48 t35 := by rw [z69]; exact GoodM.enter (named_of namesOk) c69 g70
theorem g68 : GoodM Tryz.prog Tryz.f3 s0 v1 s1 S68 n68 L68 e47 t34 := by rw [z68]; exact GoodM.ops (named_of namesOk) hF0 c68 g69
theorem g67 : GoodM Tryz.prog Tryz.f3 s0 v1 s1 S67 n67 L67 e47 t34 := GoodM.nav3 (n := 1) g68
theorem g66 : GoodM Tryz.prog Tryz.f3 s0 v1 s1 S66 n66 L66 e46 t33 := GoodM.step hG c66 g67
theorem g65 : GoodM Tryz.prog Tryz.f3 s0 v1 s1 S65 n65 L65 e46 t33 := GoodM.nav3 (n := 1) g66
theorem g64 : GoodM Tryz.prog Tryz.f3 s0 v1 s1 S64 n64 L64 e45 t32 := GoodM.step hG c64 g65
theorem g63 : GoodM Tryz.prog Tryz.f3 s0 v1 s1 S63 n63 L63 e45 t32 := GoodM.nav3 (n := 1) g64
theorem g62 : GoodM Tryz.prog Tryz.f3 s0 v1 s1 S62 n62 L62 e44 t31 := GoodM.rounds hG x62 y62 c62 g63
theorem g61 : GoodM Tryz.prog Tryz.f3 s0 v1 s1 S61 n61 L61 e44 t31 := GoodM.nav3 (n := 1) g62
theorem g60 : GoodM Tryz.prog Tryz.f3 s0 v1 s1 S60 n60 L60 e43 t30 := GoodM.step hG c60 g61
theorem g59 : GoodM Tryz.prog Tryz.f3 s0 v1 s1 S59 n59 L59 e43 t30 := GoodM.nav3 (n := 2) g60
theorem g58 : GoodM Tryz.prog Tryz.f3 s0 v1 s1 S58 n58 L58 e42 t29 := GoodM.step hG c58 g59
theorem g57 : GoodM Tryz.prog Tryz.f3 s0 v1 s1 S57 n57 L57 e42 t29 := GoodM.nav3 (n := 2) g58
theorem g56 : GoodM Tryz.prog Tryz.f3 s0 v1 s1 S56 n56 L56 e41 t29 := GoodM.back c56 g57
theorem g55 : GoodM Tryz.prog Tryz.f3 s0 v1 s1 S55 n55 L55 e40 t28 := GoodM.step hG c55 g56
theorem g54 : GoodM Tryz.prog Tryz.f3 s0 v1 s1 S54 n54 L54 e40 t28 := GoodM.nav3 (n := 2) g55
theorem g53 : GoodM Tryz.prog Tryz.f3 s0 v1 s1 S53 n53 L53 e39 t27 := by rw [z53]; exact GoodM.ops (named_of namesOk) hF0 c53 g54
theorem g52 : GoodM Tryz.prog Tryz.f3 s0 v1 s1 S52 n52 L52 e38 t27 := GoodM.back c52 g53
theorem g51 : GoodM Tryz.prog Tryz.f3 s0 v1 s1 S51 n51 L51 e37 t26 := GoodM.step hG c51 g52
theorem g50 : GoodM Tryz.prog Tryz.f3 s0 v1 s1 S50 n50 L50 e36 t25 := GoodM.step hG c50 g51
theorem g49 : GoodM Tryz.prog Tryz.f3 s0 v1 s1 S49 n49 L49 e35 t25 := by rw [z49]; exact GoodM.enter (named_of namesOk) c49 g50
theorem g48 : GoodM Tryz.prog Tryz.f3 s0 v1 s1 S48 n48 L48 e34 t24 := by rw [z48]; exact GoodM.ops (named_of namesOk) hF0 c48 g49
theorem g47 : GoodM Tryz.prog Tryz.f3 s0 v1 s1 S47 n47 L47 e34 t24 := GoodM.nav3 (n := 1) g48
theorem g46 : GoodM Tryz.prog Tryz.f3 s0 v1 s1 S46 n46 L46 e33 t24 := by rw [z46]; exact GoodM.enter (named_of namesOk) c46 g47
theorem g45 : GoodM Tryz.prog Tryz.f3 s0 v1 s1 S45 n45 L45 e32 t23 := by rw [z45]; exact GoodM.ops (named_of namesOk) hF0 c45 g46
theorem g44 : GoodM Tryz.prog Tryz.f3 s0 v1 s1 S44 n44 L44 e32 t23 := GoodM.nav3 (n := 1) g45
theorem g43 : GoodM Tryz.prog Tryz.f3 s0 v1 s1 S43 n43 L43 e31 t22 := GoodM.step hG c43 g44
theorem g42 : GoodM Tryz.prog Tryz.f3 s0 v1 s1 S42 n42 L42 e31 t22 := GoodM.nav3 (n := 1) g43
theorem g41 : GoodM Tryz.prog Tryz.f3 s0 v1 s1 S41 n41 L41 e30 t21 := GoodM.step hG c41 g42
theorem g40 : GoodM Tryz.prog Tryz.f3 s0 v1 s1 S40 n40 L40 e30 t21 := GoodM.nav3 (n := 1) g41
theorem g39 : GoodM Tryz.prog Tryz.f3 s0 v1 s1 S39 n39 L39 e29 t20 := GoodM.rounds hG x39 y39 c39 g40
theorem g38 : GoodM Tryz.prog Tryz.f3 s0 v1 s1 S38 n38 L38 e29 t20 := GoodM.nav3 (n := 2) g39
theorem g37 : GoodM Tryz.prog Tryz.f3 s0 v1 s1 S37 n37 L37 e28 t19 := GoodM.step hG c37 g38
theorem g36 : GoodM Tryz.prog Tryz.f3 s0 v1 s1 S36 n36 L36 e27 t19 := by rw [z36]; exact GoodM.enter (named_of namesOk) c36 g37
theorem g35 : GoodM Tryz.prog Tryz.f3 s0 v1 s1 S35 n35 L35 e26 t18 := by rw [z35]; exact GoodM.ops (named_of namesOk) hF0 c35 g36
theorem g34 : GoodM Tryz.prog Tryz.f3 s0 v1 s1 S34 n34 L34 e26 t18 := GoodM.nav3 (n := 1) g35
theorem g33 : GoodM Tryz.prog Tryz.f3 s0 v1 s1 S33 n33 L33 e25 t17 := GoodM.step hG c33 g34
theorem g32 : GoodM Tryz.prog Tryz.f3 s0 v1 s1 S32 n32 L32 e24 t17 := by rw [z32]; exact GoodM.enter (named_of namesOk) c32 g33
theorem g31 : GoodM Tryz.prog Tryz.f3 s0 v1 s1 S31 n31 L31 e23 t16 := by rw [z31]; exact GoodM.ops (named_of namesOk) hF0 c31 g32
theorem g30 : GoodM Tryz.prog Tryz.f3 s0 v1 s1 S30 n30 L30 e23 t16 := GoodM.nav3 (n := 1) g31
theorem g29 : GoodM Tryz.prog Tryz.f3 s0 v1 s1 S29 n29 L29 e22 t15 := GoodM.step hG c29 g30
theorem g28 : GoodM Tryz.prog Tryz.f3 s0 v1 s1 S28 n28 L28 e22 t15 := GoodM.nav3 (n := 2) g29
theorem g27 : GoodM Tryz.prog Tryz.f3 s0 v1 s1 S27 n27 L27 e21 t14 := by rw [z27]; exact GoodM.ops (named_of namesOk) hF0 c27 g28
theorem g26 : GoodM Tryz.prog Tryz.f3 s0 v1 s1 S26 n26 L26 e20 t14 := GoodM.back c26 g27
theorem g25 : GoodM Tryz.prog Tryz.f3 s0 v1 s1 S25 n25 L25 e19 t13 := GoodM.step hG c25 g26
theorem g24 : GoodM Tryz.prog Tryz.f3 s0 v1 s1 S24 n24 L24 e19 t13 := GoodM.nav3 (n := 2) g25
theorem g23 : GoodM Tryz.prog Tryz.f3 s0 v1 s1 S23 n23 L23 e18 t12 := by rw [z23]; exact GoodM.ops (named_of namesOk) hF0 c23 g24
theorem g22 : GoodM Tryz.prog Tryz.f3 s0 v1 s1 S22 n22 L22 e17 t12 := GoodM.back c22 g23
theorem g21 : GoodM Tryz.prog Tryz.f3 s0 v1 s1 S21 n21 L21 e16 t11 := GoodM.step hG c21 g22
theorem g20 : GoodM Tryz.prog Tryz.f3 s0 v1 s1 S20 n20 L20 e15 t10 := GoodM.step hG c20 g21
theorem g19 : GoodM Tryz.prog Tryz.f3 s0 v1 s1 S19 n19 L19 e14 t9 := GoodM.step hG c19 g20
theorem g18 : GoodM Tryz.prog Tryz.f3 s0 v1 s1 S18 n18 L18 e13 t9 := by rw [z18]; exact GoodM.enter (named_of namesOk) c18 g19
theorem g17 : GoodM Tryz.prog Tryz.f3 s0 v1 s1 S17 n17 L17 e12 t8 := by rw [z17]; exact GoodM.ops (named_of namesOk) hF0 c17 g18
theorem g16 : GoodM Tryz.prog Tryz.f3 s0 v1 s1 S16 n16 L16 e12 t8 := GoodM.nav3 (n := 1) g17
theorem g15 : GoodM Tryz.prog Tryz.f3 s0 v1 s1 S15 n15 L15 e11 t7 := GoodM.step hG c15 g16
theorem g14 : GoodM Tryz.prog Tryz.f3 s0 v1 s1 S14 n14 L14 e10 t7 := by rw [z14]; exact GoodM.enter (named_of namesOk) c14 g15
theorem g13 : GoodM Tryz.prog Tryz.f3 s0 v1 s1 S13 n13 L13 e9 t6 := by rw [z13]; exact GoodM.ops (named_of namesOk) hF0 c13 g14
theorem g12 : GoodM Tryz.prog Tryz.f3 s0 v1 s1 S12 n12 L12 e9 t6 := GoodM.nav3 (n := 1) g13
theorem g11 : GoodM Tryz.prog Tryz.f3 s0 v1 s1 S11 n11 L11 e8 t5 := GoodM.step hG c11 g12
theorem g10 : GoodM Tryz.prog Tryz.f3 s0 v1 s1 S10 n10 L10 e7 t5 := by rw [z10]; exact GoodM.enter (named_of namesOk) c10 g11
theorem g9 : GoodM Tryz.prog Tryz.f3 s0 v1 s1 S9 n9 L9 e6 t4 := by rw [z9]; exact GoodM.ops (named_of namesOk) hF0 c9 g10
theorem g8 : GoodM Tryz.prog Tryz.f3 s0 v1 s1 S8 n8 L8 e6 t4 := GoodM.nav3 (n := 1) g9
theorem g7 : GoodM Tryz.prog Tryz.f3 s0 v1 s1 S7 n7 L7 e5 t3 := GoodM.step hG c7 g8
theorem g6 : GoodM Tryz.prog Tryz.f3 s0 v1 s1 S6 n6 L6 e4 t3 := by rw [z6]; exact GoodM.enter (named_of namesOk) c6 g7
theorem g5 : GoodM Tryz.prog Tryz.f3 s0 v1 s1 S5 n5 L5 e3 t2 := by rw [z5]; exact GoodM.ops (named_of namesOk) hF0 c5 g6
theorem g4 : GoodM Tryz.prog Tryz.f3 s0 v1 s1 S4 n4 L4 e3 t2 := GoodM.nav3 (n := 1) g5
theorem g3 : GoodM Tryz.prog Tryz.f3 s0 v1 s1 S3 n3 L3 e2 t1 := GoodM.step hG c3 g4
theorem g2 : GoodM Tryz.prog Tryz.f3 s0 v1 s1 S2 n2 L2 e1 t1 := by rw [z2]; exact GoodM.enter (named_of namesOk) c2 g3
theorem g1 : GoodM Tryz.prog Tryz.f3 s0 v1 s1 S1 n1 L1 e1 t1 := GoodM.nav3 (n := 1) g2
theorem g0 : GoodM Tryz.prog Tryz.f3 s0 v1 s1 S0 n0 L0 e0 s0 := GoodM.step hG c0 g1
theorem good : Ev.Good Tryz.prog Tryz.f3 B0 e0 ⟨0, .lf⟩ := GoodM.good g0
end Go.Proofs.YteabjmdbeadegaaGreatDoor.rMendKnown0
namespace Go.Proofs.YteabjmdbeadegaaGreatDoor
open Go.RowKit
theorem pr_MendKnown (W : World) : Calls Tryz.prog 3 #[] W fun e W' => e = .returned (.bool true) ∧ Below W.heap.size W W' := Ev.Good.calls Tryz.func3 rMendKnown0.body rMendKnown0.good W
end Go.Proofs.YteabjmdbeadegaaGreatDoor
